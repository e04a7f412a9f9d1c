package check_test

import (
	"strconv"
	"testing"

	"athanor/api"
	"athanor/check"
)

// Promise 15.2: code that checks comes to a call or a return in each level in at most as many steps as it has instructions, takes no value that is not there, and leaves none behind.

// onRun is a level of a run: its values, where it goes on, and how many steps were made in it.
type onRun struct{ values, on, steps int }

// run goes through a code's instructions, one way at each choice, and tells what went wrong.
func run(c api.Code, choose func() bool) string {
	levels := []onRun{{on: -1}}
	been := make([]int, len(c.Ins))
	for at, all := 0, 0; ; all++ {
		if at < 0 || at >= len(c.Ins) {
			return "a place that is not there: " + strconv.Itoa(at)
		}
		last := &levels[len(levels)-1]
		been[at]++
		last.steps++
		if been[at] > 1 || all >= len(c.Ins) || last.steps > len(c.Ins) {
			return "too many steps"
		}
		i := c.Ins[at]
		at++
		switch i.Op {
		case api.IPush:
			last.values++
		case api.IMark:
			last.values--
		case api.IFrame:
			levels = append(levels, onRun{on: i.A})
			continue
		case api.IJump:
			at = i.A
		case api.IFalse:
			if choose() {
				at = i.A
			}
		case api.ICall, api.IReturn:
			if i.Op == api.ICall {
				last.values -= i.A
			}
			if last.values > 0 {
				return "values left behind"
			}
			at = last.on
			levels = levels[:len(levels)-1]
		}
		if last.values < 0 {
			return "a value that is not there"
		}
		if len(levels) == 0 {
			return ""
		}
	}
}

// runAll runs a code, and those within it, some times.
func (s *sampler) runAll(c api.Code) string {
	for _, c := range codes(&c) {
		for range 12 {
			if problem := run(*c, func() bool { return s.Intn(2) == 0 }); problem != "" {
				return problem
			}
		}
	}
	return ""
}

func TestRunsOfGrownCodes(t *testing.T) {
	s := newSampler(154)
	for i := range 6000 {
		ribs := s.ribs()
		c := s.grown(2, 12+i%60, ribs)
		if check.Check(c, ribs) != api.OK {
			t.Fatalf("%s, ribs %v: it should check", show(c), ribs)
		}
		if problem := s.runAll(c); problem != "" {
			t.Fatalf("%s: %s", show(c), problem)
		}
	}
}

// Of codes in which something was changed those that check run as well; of the others many do not.
func TestRunsOfTornCodes(t *testing.T) {
	s := newSampler(155)
	checked, problems := 0, map[string]int{}
	for range 60000 {
		ribs := s.ribs()
		c := s.grown(1, 14, ribs)
		s.torn(&c)
		s.torn(&c)
		problem := s.runAll(c)
		if check.Check(c, ribs) != api.OK {
			problems[problem]++
			continue
		}
		checked++
		if problem != "" {
			t.Fatalf("%s: %s", show(c), problem)
		}
	}
	if checked < 6000 || problems["values left behind"] < 300 || problems["a value that is not there"] < 300 || problems["too many steps"] < 3 {
		t.Error(checked, problems)
	}
}

// All short codes that check, along all ways.
func TestRunsOfAllShortCodes(t *testing.T) {
	for long := 1; long <= 4; long++ {
		row := make([]api.Ins, long)
		every(row, telling(long), 0, func() {
			c := api.Code{Ins: row}
			if check.Check(c, nil) != api.OK {
				return
			}
			for choices := range 1 << long {
				left := choices
				problem := run(c, func() bool {
					left /= 2
					return left%2 == 1
				})
				if problem != "" {
					t.Fatalf("%s: %s", show(c), problem)
				}
			}
		})
	}
}
