package net_test

import (
	"fmt"

	"tollbar/api"
	"tollbar/net"
)

// The example of README.md.
func Example() {
	replies, stores, code := net.Run([]api.Act{
		{Kind: api.Link, A: 0, B: 1, N: 2},
		{Kind: api.Link, A: 1, B: 2, N: 3},
		{Kind: api.Give, A: 2, Prefix: api.Prefix{Addr: 9, Bits: 8}},
		{Kind: api.Tell, A: 2},
		{Kind: api.Tell, A: 1},
		{Kind: api.Send, A: 2, B: 1, N: -1},
		{Kind: api.Tell, A: 0},
		{Kind: api.Send, A: 0, B: 1, N: -1},
		{Kind: api.Send, A: 1, B: 0, N: -1},
		{Kind: api.Decide, A: 0},
		{Kind: api.Decide, A: 1},
		{Kind: api.Decide, A: 2},
		{Kind: api.Walk, A: 0, N: 9},
	})
	fmt.Println(replies[5].Keys, replies[8].Keys)
	fmt.Println(replies[12].Path, replies[12].Cost)
	fmt.Println(stores[2], int(code))
	// Output:
	// [a:2 p:2] [a:1 a:2 p:1 p:2]
	// [0 1 2] 5
	// [{a:2 1 2 1=3} {p:2 1 2 9/8}] 0
}
