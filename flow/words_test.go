package flow_test

import (
	"slices"

	"tappet/api"
	"tappet/isa"
	"tappet/sample"
)

// checkOf is Check by the words: one thing behind the other, the first one first.
func checkOf(l []api.Instr) (int, api.Errno) {
	if len(l) > 16384 {
		return 0, api.ErrLong
	}
	for n, i := range l {
		if !isa.May(i) {
			return n, 90
		}
	}
	for n, i := range l {
		if (i.Op == 19 || i.Op == 20) && int64(i.C) > int64(len(l)-1) {
			return n, 110
		}
	}
	if len(l) == 0 {
		return 0, 111
	}
	if last := l[len(l)-1].Op; last != 19 && last != 27 {
		return len(l) - 1, 111
	}
	return 0, api.OK
}

// behindOf is Behind by the words.
func behindOf(l []api.Instr, n int) []int {
	if _, err := checkOf(l); err != api.OK || n < 0 || n >= len(l) {
		return nil
	}
	return sample.Behind(l, n)
}

// comeOf is Come by the words.
func comeOf(l []api.Instr) []bool {
	if _, err := checkOf(l); err != api.OK {
		return nil
	}
	return sample.Reach(sample.Links(l), []int{0})
}

// orderOf is Order by the words: over and over, the least one that is not in it yet and that comes behind none which is not.
func orderOf(l []api.Instr) ([]int, bool) {
	if _, err := checkOf(l); err != api.OK {
		return nil, false
	}
	if _, is := sample.Loop(l); is {
		return nil, false
	}
	links, waits := sample.Links(l), comeOf(l)
	var order []int
	for {
		n := slices.IndexFunc(sample.Numbers(len(l)), func(n int) bool {
			return waits[n] && !slices.ContainsFunc(sample.Numbers(len(l)), func(ahead int) bool { return waits[ahead] && slices.Contains(links[ahead], n) })
		})
		if n < 0 {
			return order, true
		}
		order = append(order, n)
		waits[n] = false
	}
}
