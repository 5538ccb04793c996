package rib_test

import (
	"fmt"

	"tollbar/rib"
	"tollbar/store"
)

// The example of README.md.
func Example() {
	l, _ := store.Put(nil, 0, "a:0", "1=2")
	l, _ = store.Put(l, 1, "a:1", "0=2")
	l, _ = store.Put(l, 1, "p:1", "0/0,9/8")
	is, _ := rib.Table(l, 0)
	r, _ := rib.Lookup(is, 9)
	fmt.Println(is, r)
	l, _ = store.Put(l, 1, "p:1", "9/8,64/2")
	wanted, _ := rib.Table(l, 0)
	set, gone, _ := rib.Diff(is, wanted)
	is, code := rib.Patch(is, set, gone)
	fmt.Println(set, gone, is, int(code))
	// Output:
	// [{{0 0} false 2 [1]} {{9 8} false 2 [1]}] {{9 8} false 2 [1]}
	// [{{64 2} false 2 [1]}] [{0 0}] [{{9 8} false 2 [1]} {{64 2} false 2 [1]}] 0
}
