package sample

import (
	"iter"
	"strconv"
	"strings"

	"tappet/api"
	"tappet/asm"
)

// Code answers a program that is written as the chapters' tables have it: texts of instructions, a comma between. It panics if there is none.
func Code(text string) []api.Instr {
	refuse := func(what string, n int, err api.Errno) {
		if err != api.OK {
			panic(what + " " + strconv.Itoa(n) + " of " + strconv.Quote(text) + ": " + strconv.Itoa(int(err)))
		}
	}
	lines, n, err := asm.Parse(strings.ReplaceAll(text, ", ", "\n"))
	refuse("line", n, err)
	l, n, err := asm.Assemble(lines)
	refuse("instruction", n, err)
	return l
}

// Fill answers that many instructions, each as told of its number.
func Fill(count int, at func(n int) api.Instr) []api.Instr {
	l := make([]api.Instr, count)
	for n := range l {
		l[n] = at(n)
	}
	return l
}

// All goes over all programs of that many of these instructions, in one list that is written over each time.
func All(count int, of []api.Instr) iter.Seq[[]api.Instr] {
	l := make([]api.Instr, count)
	return func(yield func([]api.Instr) bool) { fillFrom(l, 0, of, yield) }
}

// fillFrom goes over all that are alike below n; it tells whether to go on.
func fillFrom(l []api.Instr, n int, of []api.Instr, yield func([]api.Instr) bool) bool {
	if n == len(l) {
		return yield(l)
	}
	for _, i := range of {
		l[n] = i
		if !fillFrom(l, n+1, of, yield) {
			return false
		}
	}
	return true
}

// With answers a program with one of its places taken otherwise.
func With(l []api.Instr, n int, i api.Instr) []api.Instr {
	l = append([]api.Instr(nil), l...)
	l[n] = i
	return l
}

// Numbers answers the numbers below count.
func Numbers(count int) []int {
	l := make([]int, count)
	for n := range l {
		l[n] = n
	}
	return l
}

// Behind answers by the words what comes behind an instruction of a program that is well.
func Behind(l []api.Instr, n int) []int {
	next, named := n+1, int(l[n].C)
	switch {
	case l[n].Op == 27:
		return nil
	case l[n].Op == 19:
		return []int{named}
	case l[n].Op == 20 && named != next:
		return []int{next, named}
	}
	return []int{next}
}

// Links answers Behind of each instruction.
func Links(l []api.Instr) [][]int {
	links := make([][]int, len(l))
	for n := range l {
		links[n] = Behind(l, n)
	}
	return links
}

// Reach tells which numbers lie behind those of the list, at whatever distance, or are among them: as long as one is found, all are looked at again.
func Reach(links [][]int, from []int) []bool {
	found := make([]bool, len(links))
	for _, n := range from {
		found[n] = true
	}
	for again := true; again; {
		again = false
		for n, is := range found {
			for _, next := range links[n] {
				if is && !found[next] {
					found[next], again = true, true
				}
			}
		}
	}
	return found
}

// Loop answers by the words, of a program that is well, the least number that is come to and that lies behind itself; false, if there is none.
func Loop(l []api.Instr) (int, bool) {
	links := Links(l)
	for n, is := range Reach(links, []int{0}) {
		if is && Reach(links, links[n])[n] {
			return n, true
		}
	}
	return 0, false
}

// OrJump answers the next instruction: about half of them may go on elsewhere.
func (r *Row) OrJump() api.Instr {
	if r.kinds == nil {
		r.kinds = Kinds()
	}
	if r.Below(2) == 0 {
		return r.Instr(r.kinds[18:20])
	}
	return r.Instr(r.kinds)
}

// Within is as OrJump, but what may go on elsewhere goes to a number below count.
func (r *Row) Within(count int) api.Instr {
	i := r.OrJump()
	if i.Op == api.OpJump || i.Op == api.OpZero {
		i.C = uint32(r.Below(count))
	}
	return i
}

// Program answers a program of which flow.Check tells no error; of back times in 8 it goes back.
func (r *Row) Program(count, back int) []api.Instr {
	l := make([]api.Instr, count)
	for n := range l {
		l[n] = r.Within(count)
		jumps := l[n].Op == api.OpJump || l[n].Op == api.OpZero
		if jumps && n+1 < count && r.Below(8) >= back {
			l[n].C = uint32(n + 1 + r.Below(min(count-n-1, 1+r.Below(count))))
		}
	}
	if last := &l[count-1]; last.Op != api.OpJump || r.Below(8) >= back {
		*last = api.Instr{Op: api.OpYield}
	}
	return l
}

// Amiss answers a program with some things turned, most often one.
func (r *Row) Amiss(count int) []api.Instr {
	l := r.Program(count, r.Below(9))
	for range 1 + r.Below(2)*r.Below(3) {
		n := r.Below(count)
		if r.Below(4) == 0 {
			n = count - 1
		}
		switch r.Below(4) {
		case 0:
			l[n] = r.NearInstr(Kinds())
		case 1:
			l[n] = r.Instr(Kinds())
		case 2:
			l[n] = api.Instr{Op: api.OpJump, C: uint32(r.Below(count + 2))}
		case 3:
			l[n] = api.Instr{Op: api.OpZero, C: uint32(r.Below(count + 2))}
		}
	}
	return l
}
