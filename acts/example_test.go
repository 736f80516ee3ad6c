package acts_test

import (
	"fmt"

	"switchgear/acts"
	"switchgear/api"
	"switchgear/plant"
	"switchgear/steps"
)

// The example of README.md.
func Example() {
	p, _, _ := plant.Parse("plant 3\nsource 0 grid 500 0 20\nlink 0 1 breaker 400 10\nlink 1 2 switch 400 10\nrack 2 -1 100 1\n")
	s, _ := plant.Initial(p)
	s.On[0], s.Closed[0], s.Closed[1] = true, true, true
	l := []acts.Item{{Step: api.Step{Deed: api.Open, Index: 0}, Ack: true}, {Step: api.Step{Deed: api.Open, Index: 1}}}
	r, n, e := acts.Begin(p, s, steps.Task{}, l)
	fmt.Println(n, e)
	fmt.Println(r.Next())
	fmt.Println(r.Next() == api.ErrAck)
	fmt.Println(r.Ack(7), r.Next())
	status, e := r.Status()
	fmt.Println(status, e)
	causes, e := r.Causes()
	fmt.Println(causes, e)
	breaker := api.Part{Kind: api.LinkPart, Index: 0}
	fmt.Println(r.Undo(), r.Fail(breaker))
	fmt.Println(r.Undo() == api.ErrBad)
	fmt.Println(r.Mend(breaker), r.Undo())
	now, e := r.State()
	fmt.Println(now.Closed, e)
	log, e := r.Log()
	fmt.Println(len(log), log[1].Kind == acts.Acked, log[1].Who, e)
	again, n, e := acts.Replay(p, s, steps.Task{}, l, log)
	fmt.Println(n, e)
	fmt.Println(again.Status())
	// Output:
	// 2 0
	// 0
	// true
	// 0 0
	// {2 0 false false} 0
	// [{0 0}] 0
	// 0 0
	// true
	// 0 0
	// [true true] 0
	// 7 true 7 0
	// 7 0
	// {0 2 false true} 0
}
