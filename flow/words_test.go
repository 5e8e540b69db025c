package flow_test

import (
	"slices"

	"tappet/api"
	"tappet/isa"
	"tappet/sample"
)

// checkOf is Check by the words: one thing behind the other, the first one first.
func checkOf(l []api.Instr) (int, api.Errno) {
	if len(l) > 16384 {
		return 0, api.ErrLong
	}
	for n, i := range l {
		if !isa.May(i) {
			return n, 90
		}
	}
	for n, i := range l {
		if (i.Op == 19 || i.Op == 20) && int64(i.C) > int64(len(l)-1) {
			return n, 110
		}
	}
	if len(l) == 0 {
		return 0, 111
	}
	if last := l[len(l)-1].Op; last != 19 && last != 27 {
		return len(l) - 1, 111
	}
	return 0, api.OK
}

// behindOf is Behind by the words.
func behindOf(l []api.Instr, n int) []int {
	if _, err := checkOf(l); err != api.OK || n < 0 || n >= len(l) {
		return nil
	}
	return linkOf(l, n)
}

// linkOf answers what comes behind an instruction of a program that is well.
func linkOf(l []api.Instr, n int) []int {
	next, named := n+1, int(l[n].C)
	switch {
	case l[n].Op == 27:
		return nil
	case l[n].Op == 19:
		return []int{named}
	case l[n].Op == 20 && named != next:
		return []int{next, named}
	}
	return []int{next}
}

// linksOf answers behindOf of each number.
func linksOf(l []api.Instr) [][]int {
	links := make([][]int, len(l))
	for n := range l {
		links[n] = behindOf(l, n)
	}
	return links
}

// reach answers which numbers lie behind those of the list, at whatever distance: as long as one is found, all are looked at again.
func reach(links [][]int, from []int) []bool {
	found := make([]bool, len(links))
	for _, n := range from {
		found[n] = true
	}
	for again := true; again; {
		again = false
		for n, is := range found {
			for _, next := range links[n] {
				if is && !found[next] {
					found[next], again = true, true
				}
			}
		}
	}
	return found
}

// comeOf is Come by the words.
func comeOf(l []api.Instr) []bool {
	if _, err := checkOf(l); err != api.OK {
		return nil
	}
	return reach(linksOf(l), []int{0})
}

// loopOf answers the least number that is come to and that lies behind itself; false, if there is none.
func loopOf(l []api.Instr) (int, bool) {
	links := linksOf(l)
	for n, is := range comeOf(l) {
		if is && reach(links, links[n])[n] {
			return n, true
		}
	}
	return 0, false
}

// orderOf is Order by the words: over and over, the least one that is not in it yet and that comes behind none which is not.
func orderOf(l []api.Instr) ([]int, bool) {
	if _, err := checkOf(l); err != api.OK {
		return nil, false
	}
	if _, is := loopOf(l); is {
		return nil, false
	}
	links, waits := linksOf(l), comeOf(l)
	var order []int
	for {
		n := slices.IndexFunc(numbers(len(l)), func(n int) bool {
			return waits[n] && !slices.ContainsFunc(numbers(len(l)), func(ahead int) bool { return waits[ahead] && slices.Contains(links[ahead], n) })
		})
		if n < 0 {
			return order, true
		}
		order = append(order, n)
		waits[n] = false
	}
}

// numbers answers the numbers below count.
func numbers(count int) []int {
	l := make([]int, count)
	for n := range l {
		l[n] = n
	}
	return l
}

// feed makes up programs, alike in each run.
type feed struct {
	*sample.Row
	kinds []sample.Kind
}

// from answers a feed; unlike seeds have unlike ones.
func from(seed uint64) feed { return feed{sample.From(seed), sample.Kinds()} }

// instr answers an instruction: about half of them may go on elsewhere.
func (f feed) instr() api.Instr {
	if f.Below(2) == 0 {
		return f.Instr(f.kinds[18:20])
	}
	return f.Instr(f.kinds)
}

// program answers a program that is well; of back times in 8 it goes back.
func (f feed) program(count, back int) []api.Instr {
	l := make([]api.Instr, count)
	for n := range l {
		l[n] = f.instr()
		if l[n].Op != api.OpJump && l[n].Op != api.OpZero {
			continue
		}
		l[n].C = uint32(f.Below(count))
		if n+1 < count && f.Below(8) >= back {
			l[n].C = uint32(n + 1 + f.Below(min(count-n-1, 1+f.Below(count))))
		}
	}
	if last := &l[count-1]; last.Op != api.OpJump || f.Below(8) >= back {
		*last = yield
	}
	return l
}

// amiss answers a program with some things turned, most often one.
func (f feed) amiss(count int) []api.Instr {
	l := f.program(count, f.Below(9))
	for range 1 + f.Below(2)*f.Below(3) {
		n := f.Below(count)
		if f.Below(4) == 0 {
			n = count - 1
		}
		switch f.Below(4) {
		case 0:
			l[n] = f.NearInstr(f.kinds)
		case 1:
			l[n] = f.Instr(f.kinds)
		case 2:
			l[n] = api.Instr{Op: api.OpJump, C: uint32(f.Below(count + 2))}
		case 3:
			l[n] = api.Instr{Op: api.OpZero, C: uint32(f.Below(count + 2))}
		}
	}
	return l
}
