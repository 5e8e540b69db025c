package height_test

import (
	"slices"

	"tappet/api"
	"tappet/flow"
	"tappet/isa"
	"tappet/sample"
)

// kinds is chapter 9's table.
var kinds = sample.Kinds()

// heightsOf is Heights by the words: over and over, the least number of those that are told and not done.
func heightsOf(l []api.Instr, most int) ([]int, int, api.Errno) {
	if most < 0 || most > 64 {
		return nil, 0, 5
	}
	if n, err := flow.Check(l); err != api.OK {
		return nil, n, err
	}
	told, done := map[int]int{0: 0}, map[int]bool{}
	for {
		n := 0
		for _, is := told[n]; n < len(l) && (!is || done[n]); _, is = told[n] {
			n++
		}
		if n == len(l) {
			break
		}
		done[n] = true
		words := told[n] - kinds[l[n].Op-1].Takes
		if words < 0 {
			return nil, n, 121
		}
		words += kinds[l[n].Op-1].Gives
		if words > most {
			return nil, n, 122
		}
		for _, next := range sample.Behind(l, n) {
			if other, is := told[next]; is && other != words {
				return nil, next, 120
			}
			told[next] = words
		}
	}
	heights := slices.Repeat([]int{-1}, len(l))
	for n, words := range told {
		heights[n] = words
	}
	return heights, 0, api.OK
}

// mostOf is Most by the words, of heights without an error.
func mostOf(l []api.Instr, heights []int) int {
	var words []int
	for n, stand := range heights {
		if stand >= 0 {
			k := kinds[l[n].Op-1]
			words = append(words, stand, stand-k.Takes+k.Gives)
		}
	}
	return slices.Max(words)
}

// level answers a program without an error, where at most that many words stand.
func level(row *sample.Row, count, most int) []api.Instr {
	l, stand := make([]api.Instr, count), slices.Repeat([]int{-1}, count)
	stand[0] = 0
	for n := range l {
		if stand[n] >= 0 {
			l[n] = fitting(row, stand, n, most)
			continue
		}
		// Nothing goes back to what is not told so far: it is not come to.
		l[n] = row.Within(count)
	}
	if last := &l[count-1]; last.Op != api.OpJump {
		*last = api.Instr{Op: api.OpYield}
	}
	return l
}

// fitting answers what may be at n, and tells how many words stand at those behind it; a yield, if nothing else is found.
func fitting(row *sample.Row, stand []int, n, most int) api.Instr {
	for range 20 {
		i := row.OrJump()
		k := kinds[i.Op-1]
		words := stand[n] - k.Takes + k.Gives
		if stand[n] < k.Takes || words > most {
			continue
		}
		var behind []int
		if isa.Jumps(i.Op) {
			i.C = uint32(row.Below(len(stand)))
			behind = append(behind, int(i.C))
		}
		if i.Op != api.OpJump && i.Op != api.OpYield {
			behind = append(behind, n+1)
		}
		if slices.ContainsFunc(behind, func(next int) bool {
			return next == len(stand) || stand[next] != words && (stand[next] >= 0 || next <= n)
		}) {
			continue
		}
		for _, next := range behind {
			stand[next] = words
		}
		return i
	}
	return api.Instr{Op: api.OpYield}
}
