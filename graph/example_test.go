package graph_test

import (
	"fmt"

	"tollbar/graph"
	"tollbar/store"
)

// The example of README.md.
func Example() {
	l, _ := store.Put(nil, 0, "a:0", "1=2")
	l, _ = store.Put(l, 1, "a:1", "0=2,2=3")
	l, _ = store.Put(l, 2, "a:2", "1=3")
	ways, code := graph.Ways(l, 0)
	fmt.Println(ways[:4], int(code))
	// Output: [{0 []} {2 [1]} {5 [1]} {-1 []}] 0
}
