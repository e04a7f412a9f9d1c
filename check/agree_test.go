package check_test

import (
	"testing"

	"athanor/api"
	"athanor/check"
)

// Promise 15.1: Check says what the chapter says, written out a second time.

// agree holds both against each other, and says whether the code checks.
func agree(t *testing.T, c api.Code, ribs []int) bool {
	t.Helper()
	got, want := check.Check(c, ribs), modelCheck(c, ribs)
	if got != want {
		t.Fatalf("%s\nribs %v: %s, want %s", show(c), ribs, errName(got), errName(want))
	}
	return got == api.OK
}

func TestGrownCodes(t *testing.T) {
	s := newSampler(151)
	for range 20000 {
		ribs := s.ribs()
		c := s.grown(3, 24, ribs)
		if !agree(t, c, ribs) {
			t.Fatalf("%s, ribs %v: it should check", show(c), ribs)
		}
	}
}

func TestTornCodes(t *testing.T) {
	s := newSampler(152)
	counts := map[bool]int{}
	for range 60000 {
		ribs := s.ribs()
		c := s.grown(2, 12, ribs)
		for range 1 + s.Intn(3) {
			s.torn(&c)
		}
		counts[agree(t, c, ribs)]++
	}
	if counts[true] < 6000 || counts[false] < 6000 {
		t.Error(counts)
	}
}

// telling are instructions of which short codes are made.
func telling(long int) []api.Ins {
	all := []api.Ins{{Op: api.IUnset}, {Op: api.IPush}, {Op: api.IMark}, {Op: api.IReturn}, {Op: api.ICall}, {Op: api.ICall, A: 1}}
	for to := 1; to < long; to++ {
		all = append(all, api.Ins{Op: api.IFrame, A: to}, api.Ins{Op: api.IJump, A: to}, api.Ins{Op: api.IFalse, A: to})
	}
	return all
}

// every calls do with all rows of so many instructions.
func every(row, all []api.Ins, at int, do func()) {
	if at == len(row) {
		do()
		return
	}
	for _, i := range all {
		row[at] = i
		every(row, all, at+1, do)
	}
}

// All short codes.
func TestAllShortCodes(t *testing.T) {
	for long := 1; long <= 5; long++ {
		good, all := 0, 0
		row := make([]api.Ins, long)
		every(row, telling(long), 0, func() {
			all++
			if quick := modelShort(row); quick != (check.Check(api.Code{Ins: row}, nil) == api.OK) {
				t.Fatalf("%s: want %v", show(api.Code{Ins: row}), quick)
			} else if quick {
				good++
			}
		})
		if long == 1 && good != 2 || good*2 > all {
			t.Errorf("%d of %d", good, all)
		}
	}
}

// modelShort is modelWays without a code around it.
func modelShort(row []api.Ins) bool { return modelMayRun(api.Code{Ins: row}, nil) }

// Long codes, in which many ways meet and frames lie within one another.
func TestLongCodes(t *testing.T) {
	s := newSampler(153)
	counts := map[bool]int{}
	for i := range 400 {
		ribs := s.ribs()
		c := s.grown(1, 3000, ribs)
		if i%2 == 0 {
			s.torn(&c)
		}
		counts[agree(t, c, ribs)]++
	}
	if counts[false] < 20 {
		t.Error(counts)
	}
}
