package stm_test

import (
	"fmt"

	"limewash/api"
	"limewash/stm"
)

// The example of README.md, which is that of the whole system in the document.
func Example() {
	answers, h, err := stm.Run(20, []api.Act{
		{Kind: api.Begin},
		{Kind: api.New, A: 0, N: 1},
		{Kind: api.Set, A: 1, N: 7},
		{Kind: api.Put, A: 0, N: 0, B: 1},
		{Kind: api.Commit},
		{Kind: api.Begin},
		{Kind: api.Set, A: 1, N: 8},
		{Kind: api.Put, A: 0, N: 0, B: 1},
		{Kind: api.Abort},
		{Kind: api.Copy, T: 1, A: 0, N: 0, B: 0},
		{Kind: api.Begin, T: 1},
		{Kind: api.Get, T: 1, A: 2, B: 0, N: 0},
	})
	fmt.Println(err == api.OK, answers[11].Number, h.Words[:h.Top])
	// Output: true 7 [0 2 1 14]
}

// The example of chapter 3.
func ExampleRun() {
	answers, _, _ := stm.Run(20, []api.Act{
		{Kind: api.Begin},
		{Kind: api.New, A: 0, N: 1},
		{Kind: api.Commit},
		{Kind: api.Copy, T: 1, A: 0, N: 0, B: 0},
		{Kind: api.Begin},
		{Kind: api.Begin, T: 1},
		{Kind: api.Put, A: 0, N: 0, B: 1},
		{Kind: api.Get, T: 1, A: 1, B: 0, N: 0},
		{Kind: api.Commit, T: 1},
	})
	fmt.Println(answers[7].Code == api.ErrBusy, answers[8].Code == api.ErrState)
	// Output: true true
}
