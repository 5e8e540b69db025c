package flow_test

import (
	"slices"

	"tappet/api"
	"tappet/isa"
	"tappet/sample"
)

// checkOf is Check by the words: one thing behind the other, the first one first.
func checkOf(l []api.Instr) (int, api.Errno) {
	if len(l) > 16384 {
		return 0, api.ErrLong
	}
	for n, i := range l {
		if !isa.May(i) {
			return n, 90
		}
	}
	for n, i := range l {
		if (i.Op == 19 || i.Op == 20) && int64(i.C) > int64(len(l)-1) {
			return n, 110
		}
	}
	if len(l) == 0 {
		return 0, 111
	}
	if last := l[len(l)-1].Op; last != 19 && last != 27 {
		return len(l) - 1, 111
	}
	return 0, api.OK
}

// behindOf is Behind by the words.
func behindOf(l []api.Instr, n int) []int {
	if _, err := checkOf(l); err != api.OK || n < 0 || n >= len(l) {
		return nil
	}
	return sample.Behind(l, n)
}

// linksOf answers behindOf of each number.
func linksOf(l []api.Instr) [][]int {
	links := make([][]int, len(l))
	for n := range l {
		links[n] = behindOf(l, n)
	}
	return links
}

// reach answers which numbers lie behind those of the list, at whatever distance: as long as one is found, all are looked at again.
func reach(links [][]int, from []int) []bool {
	found := make([]bool, len(links))
	for _, n := range from {
		found[n] = true
	}
	for again := true; again; {
		again = false
		for n, is := range found {
			for _, next := range links[n] {
				if is && !found[next] {
					found[next], again = true, true
				}
			}
		}
	}
	return found
}

// comeOf is Come by the words.
func comeOf(l []api.Instr) []bool {
	if _, err := checkOf(l); err != api.OK {
		return nil
	}
	return reach(linksOf(l), []int{0})
}

// loopOf answers the least number that is come to and that lies behind itself; false, if there is none.
func loopOf(l []api.Instr) (int, bool) {
	links := linksOf(l)
	for n, is := range comeOf(l) {
		if is && reach(links, links[n])[n] {
			return n, true
		}
	}
	return 0, false
}

// orderOf is Order by the words: over and over, the least one that is not in it yet and that comes behind none which is not.
func orderOf(l []api.Instr) ([]int, bool) {
	if _, err := checkOf(l); err != api.OK {
		return nil, false
	}
	if _, is := loopOf(l); is {
		return nil, false
	}
	links, waits := linksOf(l), comeOf(l)
	var order []int
	for {
		n := slices.IndexFunc(sample.Numbers(len(l)), func(n int) bool {
			return waits[n] && !slices.ContainsFunc(sample.Numbers(len(l)), func(ahead int) bool { return waits[ahead] && slices.Contains(links[ahead], n) })
		})
		if n < 0 {
			return order, true
		}
		order = append(order, n)
		waits[n] = false
	}
}
