package store_test

import (
	"fmt"

	"tollbar/store"
)

// The example of README.md.
func Example() {
	mine, _ := store.Put(nil, 0, "x", "hi")
	yours, _ := store.Put(nil, 1, "x", "ho")
	sent, _ := store.Encode(yours)
	came, _ := store.Decode(sent)
	merged, keys, _ := store.Merge(mine, came)
	e, code := store.Get(merged, "x")
	fmt.Println(merged, keys, e, int(code))
	// Output: [{x 1 1 ho}] [x] {x 1 1 ho} 0
}
