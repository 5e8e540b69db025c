package cost_test

import (
	"slices"

	"tappet/api"
	"tappet/flow"
	"tappet/isa"
	"tappet/sample"
)

// fromOf is From by the words: as long as one is found whose worst can be told, all are looked at again.
func fromOf(l []api.Instr) ([]uint32, int, api.Errno) {
	if n, err := flow.Check(l); err != api.OK {
		return nil, n, err
	}
	if n, is := sample.Loop(l); is {
		return nil, n, 130
	}
	links := sample.Links(l)
	come, worst := sample.Reach(links, []int{0}), make([]uint32, len(l))
	for again := true; again; {
		again = false
		for n, is := range come {
			if !is || worst[n] > 0 || slices.ContainsFunc(links[n], func(next int) bool { return worst[next] == 0 }) {
				continue
			}
			worst[n], again = 1, true
			for _, next := range links[n] {
				worst[n] = max(worst[n], worst[next]+1)
			}
		}
	}
	return worst, 0, api.OK
}

// pathOf is Path by the words, of a program without an error.
func pathOf(l []api.Instr, worst []uint32) []int {
	path := []int{0}
	for {
		behind := sample.Behind(l, path[len(path)-1])
		switch {
		case len(behind) == 0:
			return path
		case len(behind) == 2 && worst[behind[1]] > worst[behind[0]]:
			path = append(path, behind[1])
		default:
			path = append(path, behind[0])
		}
	}
}

// longest answers how many instructions the longest way has from this one on, in a program without a loop: all ways are gone.
func longest(l []api.Instr, n int) uint32 {
	most := uint32(0)
	for _, next := range sample.Behind(l, n) {
		most = max(most, longest(l, next))
	}
	return most + 1
}

// ending answers a program without a loop, whose numbers go back as often as ahead; what is not come to may be in one.
func ending(row *sample.Row, count int) []api.Instr {
	rank := sample.Numbers(count)
	for n := count - 1; n > 1; n-- {
		k := 1 + row.Below(n)
		rank[n], rank[k] = rank[k], rank[n]
	}
	// Some go on from one to the next, whatever is drawn.
	if stretch := 1 + row.Below(count); row.Below(2) == 0 {
		slices.Sort(rank[row.Below(stretch):stretch])
	}
	l := make([]api.Instr, count)
	for n := range l {
		l[n] = rising(row, rank, n)
	}
	for n, is := range sample.Reach(sample.Links(l), []int{0}) {
		if !is {
			l[n] = row.Within(count)
		}
	}
	if last := &l[count-1]; last.Op != api.OpJump {
		*last = api.Instr{Op: api.OpYield}
	}
	return l
}

// rising answers what goes on from n to such of a greater rank alone; of the greatest rank it is a yield.
func rising(row *sample.Row, rank []int, n int) api.Instr {
	above := len(rank) - 1 - rank[n]
	if above == 0 || row.Below(20) == 0 {
		return api.Instr{Op: api.OpYield}
	}
	// Most often to one that is near, so that ways are long.
	if row.Below(4) > 0 {
		above = min(above, 3)
	}
	to := uint32(slices.Index(rank, rank[n]+1+row.Below(above)))
	if n+1 == len(rank) || rank[n+1] < rank[n] {
		return api.Instr{Op: api.OpJump, C: to}
	}
	i := row.OrJump()
	switch {
	case isa.Jumps(i.Op):
		i.C = to
	case i.Op == api.OpYield || row.Below(2) == 0:
		return api.Instr{Op: api.OpZero, C: to}
	}
	return i
}
