package height_test

import (
	"math"
	"slices"
	"testing"
	"time"

	"tappet/api"
	"tappet/flow"
	"tappet/height"
	"tappet/isa"
	"tappet/sample"
)

const maxCode = 16384

var (
	push  = api.Instr{Op: api.OpPush, C: 7}
	drop  = api.Instr{Op: api.OpDrop}
	dup   = api.Instr{Op: api.OpDup}
	yield = api.Instr{Op: api.OpYield}
	none  = api.Instr{Op: 28}
)

// errs fails the test unless Heights and Most tell this error, Heights with this number, and nothing beside it.
func errs(t *testing.T, l []api.Instr, most, wantN int, want api.Errno) {
	t.Helper()
	if got, n, err := height.Heights(l, most); len(got) > 0 || n != wantN || err != want {
		t.Fatalf("Heights(%s, %d) tells %s, %d, %d; want %d, %d", sample.Short(l), most, sample.Short(got), n, err, wantN, want)
	}
	if got, err := height.Most(l, most); got != 0 || err != want {
		t.Fatalf("Most(%s, %d) tells %d, %d; want error %d", sample.Short(l), most, got, err, want)
	}
}

// tells fails the test unless Heights tells these, and Most that many.
func tells(t *testing.T, l []api.Instr, most, greatest int, want ...int) {
	t.Helper()
	if got, n, err := height.Heights(l, most); !slices.Equal(got, want) || n != 0 || err != api.OK {
		t.Fatalf("Heights(%s, %d) tells %s, %d, %d; want %s", sample.Short(l), most, sample.Short(got), n, err, sample.Short(want))
	}
	if got, err := height.Most(l, most); got != greatest || err != api.OK {
		t.Fatalf("Most(%s, %d) tells %d, %d; want %d", sample.Short(l), most, got, err, greatest)
	}
}

// bears fails the test unless Heights tells these with each most from least on, and ErrOver with each below; least is what Most tells.
func bears(t *testing.T, text string, least int, want ...int) {
	t.Helper()
	l := sample.Code(text)
	for most := least; most <= 64; most++ {
		tells(t, l, most, least, want...)
	}
	for most := range least {
		if got, _, err := height.Heights(l, most); len(got) > 0 || err != api.ErrOver {
			t.Fatalf("Heights(%s, %d) tells %v, %d; want ErrOver", text, most, got, err)
		}
	}
}

// fails fails the test unless Heights tells this error of the program with each most from least on.
func fails(t *testing.T, text string, least, n int, want api.Errno) {
	t.Helper()
	for most := least; most <= 64; most++ {
		errs(t, sample.Code(text), most, n, want)
	}
}

// P12.1, P12.2: the chapter's table.
func TestExamples(t *testing.T) {
	tells(t, sample.Code("push 1, push 2, add, out 0, yield"), 2, 2, 0, 1, 2, 1, 0)
	errs(t, sample.Code("dup, yield"), 2, 0, api.ErrUnder)
	errs(t, sample.Code("push 1, dup, dup, yield"), 2, 2, api.ErrOver)
	errs(t, sample.Code("push 1, zero 3, push 7, yield"), 2, 3, api.ErrHeight)
}

// P12.1, P12.2: a most that may not be is told ahead of all else, with the number 0.
func TestRange(t *testing.T) {
	programs := [][]api.Instr{
		nil, {}, {yield}, {none}, {yield, none}, {yield, dup}, {push, {Op: api.OpJump, C: 3}}, {push, push}, make([]api.Instr, maxCode+1),
		sample.Code("dup, yield"), sample.Code("push 1, dup, yield"), sample.Code("push 1, zero 3, push 7, yield"), sample.Code("jump 1, drop, yield"),
	}
	for _, most := range append(sample.Edges(), -65, math.MinInt+1, math.MaxInt-1, math.MinInt32-1, math.MaxInt32+1, 1<<32+64, -1<<32+1) {
		for _, l := range programs {
			_, _, err := height.Heights(l, most)
			if most < 0 || most > 64 {
				errs(t, l, most, 0, api.ErrRange)
			} else if err == api.ErrRange {
				t.Errorf("Heights(%s, %d) tells ErrRange", sample.Short(l), most)
			}
		}
	}
	for _, most := range []int{math.MinInt, -1, 65, math.MaxInt} {
		errs(t, sample.Code("push 1, drop, yield"), most, 0, api.ErrRange)
	}
	errs(t, sample.Code("push 1, drop, yield"), 0, 0, api.ErrOver)
	for _, most := range []int{1, 63, 64} {
		tells(t, sample.Code("push 1, drop, yield"), most, 1, 0, 1, 0)
	}
	tells(t, sample.Code("yield"), 0, 0, 0)
}

// pushes answers that many, and what is behind them.
func pushes(count int, behind ...api.Instr) []api.Instr {
	return append(slices.Repeat([]api.Instr{push}, count), behind...)
}

// rising answers the heights of that many pushes, and those behind them.
func rising(count int, behind ...int) []int { return append(sample.Numbers(count), behind...) }

// P12.1, P12.2: as many words as there may be, and one more.
func TestMosts(t *testing.T) {
	for most := range 65 {
		tells(t, pushes(most, yield), most, most, rising(most, most)...)
		errs(t, pushes(most+1, yield), most, most, api.ErrOver)
		errs(t, pushes(most, push, push, dup, yield), most, most, api.ErrOver)
		tells(t, append(pushes(most), append(slices.Repeat([]api.Instr{drop}, most), yield)...), most, most, append(rising(most, most), down(most)...)...)
		errs(t, append(pushes(most), append(slices.Repeat([]api.Instr{drop}, most+1), yield)...), most, 2*most, api.ErrUnder)
	}
}

// down answers the numbers below n, the greatest first.
func down(n int) []int {
	l := sample.Numbers(n)
	slices.Reverse(l)
	return l
}

// P12.1, P12.2: each of flow.Check's errors goes ahead of those of the heights, wherever these are, with its number.
func TestCheckFirst(t *testing.T) {
	under, over, unlike := sample.Code("drop"), pushes(65), sample.Code("push 1, zero 3, push 7")
	for _, most := range []int{0, 1, 2, 63, 64} {
		errs(t, nil, most, 0, api.ErrEnd)
		errs(t, []api.Instr{}, most, 0, api.ErrEnd)
		for _, ahead := range [][]api.Instr{nil, under, over, unlike} {
			count := len(ahead)
			behind := func(l ...api.Instr) []api.Instr { return append(slices.Clone(ahead), l...) }
			errs(t, behind(none, yield), most, count, api.ErrOp)
			errs(t, behind(yield, yield, none), most, count+2, api.ErrOp)
			errs(t, behind(yield, api.Instr{Op: api.OpDup, C: 1}, none, yield), most, count+1, api.ErrOp)
			errs(t, behind(yield, api.Instr{Op: api.OpJump, C: uint32(count + 3)}, yield), most, count+1, api.ErrJump)
			errs(t, behind(api.Instr{Op: api.OpZero, C: math.MaxUint32}, none, yield), most, count+1, api.ErrOp)
			errs(t, behind(api.Instr{Op: api.OpZero, C: math.MaxUint32}, yield, dup), most, count, api.ErrJump)
			errs(t, behind(yield, dup), most, count+1, api.ErrEnd)
			errs(t, append(behind(), slices.Repeat([]api.Instr{yield}, maxCode+1-count)...), most, 0, api.ErrLong)
		}
	}
	errs(t, make([]api.Instr, maxCode+1), 1, 0, api.ErrLong)
	errs(t, make([]api.Instr, maxCode), 1, 0, api.ErrOp)
}

// P12.1, P12.2: each Op where from none to the most words stand, with each most: with just as many words as it takes, with fewer, with room for just as many as it gives, and for fewer.
func TestEachOp(t *testing.T) {
	row := sample.From(1)
	for n, k := range kinds {
		for stand := range 65 {
			op := row.Instr(kinds[n : n+1])
			if isa.Jumps(op.Op) {
				op.C = uint32(stand + 1)
			}
			l, behind := pushes(stand, op, yield), stand-k.Takes+k.Gives
			want := rising(stand, stand, behind)
			if k.Op == api.OpYield {
				want[stand+1] = -1
			}
			for most := range 65 {
				switch {
				case stand > most:
					errs(t, l, most, most, api.ErrOver)
				case stand < k.Takes:
					errs(t, l, most, stand, api.ErrUnder)
				case behind > most:
					errs(t, l, most, stand, api.ErrOver)
				default:
					tells(t, l, most, max(stand, behind), want...)
				}
			}
		}
	}
}

// P12.1: one that has too few words, and would leave too many, tells that it has too few; one that gives as many as it takes needs no room.
func TestUnderFirst(t *testing.T) {
	errs(t, sample.Code("dup, yield"), 0, 0, api.ErrUnder)
	errs(t, sample.Code("swap, yield"), 0, 0, api.ErrUnder)
	errs(t, sample.Code("push 1, swap, yield"), 1, 1, api.ErrUnder)
	errs(t, sample.Code("load4 0, yield"), 0, 0, api.ErrUnder)
	errs(t, sample.Code("add, yield"), 0, 0, api.ErrUnder)
	errs(t, sample.Code("push 1, dup, yield"), 1, 1, api.ErrOver)
	tells(t, sample.Code("push 1, load4 0, drop, yield"), 1, 1, 0, 1, 1, 0)
	tells(t, sample.Code("push 1, push 2, swap, yield"), 2, 2, 0, 1, 2, 2)
	tells(t, sample.Code("jump 1, send 3, yield"), 0, 0, 0, 0, 0)
}

// P12.1: heights that meet again alike.
func TestMeetAlike(t *testing.T) {
	bears(t, "push 1, zero 2, yield", 1, 0, 1, 0)
	bears(t, "push 1, zero 4, push 2, jump 5, push 3, drop, yield", 1, 0, 1, 0, 1, 0, 1, 0)
	bears(t, "push 1, zero 5, push 2, drop, yield, jump 2", 1, 0, 1, 0, 1, 0, 0)
	bears(t, "push 1, push 2, zero 1, yield", 2, 0, 1, 2, 1)
	bears(t, "push 1, zero 0, yield", 1, 0, 1, 0)
	bears(t, "push 1, push 1, zero 1, zero 0, yield", 2, 0, 1, 2, 1, 0)
	bears(t, "jump 0", 0, 0)
	bears(t, "push 1, drop, jump 0", 1, 0, 1, 0)
	bears(t, "push 1, jump 1", 1, 0, 1)
	bears(t, "push 1, push 2, swap, jump 2", 2, 0, 1, 2, 2)
	bears(t, "push 1, zero 3, jump 3, jump 0", 1, 0, 1, 0, 0)
	bears(t, "push 1, push 1, zero 5, dup, drop, load1 0, jump 1", 2, 0, 1, 2, 1, 2, 1, 1)
	bears(t, "jump 3, dup, yield, push 5, push 4, jump 1", 3, 0, 2, 3, 0, 1, 2)
}

// P12.1: heights that meet again unlike: at the one that is come to, by a jump and by both ways of a zero, ahead, behind, at itself and at instruction 0.
func TestMeetUnlike(t *testing.T) {
	fails(t, "push 1, jump 0", 1, 0, api.ErrHeight)
	fails(t, "push 1, push 1, zero 0, yield", 2, 0, api.ErrHeight)
	fails(t, "push 1, push 1, zero 2, yield", 2, 2, api.ErrHeight)
	fails(t, "push 1, zero 3, push 7, yield", 1, 3, api.ErrHeight)
	fails(t, "push 1, zero 4, push 7, yield, push 7, push 7, jump 3", 2, 3, api.ErrHeight)
	fails(t, "push 1, zero 4, push 7, jump 3, jump 3", 1, 3, api.ErrHeight)
	fails(t, "push 1, zero 1, yield", 1, 1, api.ErrHeight)
	fails(t, "push 1, push 1, zero 3, push 1, push 1, zero 3, yield", 3, 3, api.ErrHeight)
	fails(t, "push 1, push 1, push 1, zero 1, yield", 3, 1, api.ErrHeight)
	fails(t, "push 1, push 1, zero 7, push 1, push 1, zero 7, yield, yield", 3, 7, api.ErrHeight)
	fails(t, "push 1, drop, push 2, push 3, jump 1", 2, 1, api.ErrHeight)
	fails(t, "push 1, push 1, drop, jump 2", 2, 2, api.ErrHeight)
	// Both ways of a zero meet another height: the next one is told, whichever is the lesser number.
	fails(t, "push 1, zero 7, push 1, zero 8, push 1, push 1, zero 8, yield, yield", 2, 7, api.ErrHeight)
	fails(t, "push 1, zero 5, push 1, push 1, zero 0, yield", 2, 5, api.ErrHeight)
	fails(t, "push 1, zero 5, push 1, push 1, zero 2, yield", 2, 5, api.ErrHeight)
	// Only the other one does.
	fails(t, "push 1, zero 7, push 1, push 1, push 1, zero 7, yield, yield", 3, 7, api.ErrHeight)
}

// P12.1: a loop that leaves the height as it was brings no error; one that does not brings it where it is come to again.
func TestLoops(t *testing.T) {
	bears(t, "push 1, push 2, push 3, add, jump 2", 3, 0, 1, 2, 3, 2)
	bears(t, "push 1, dup, zero 5, drop, jump 0, yield", 2, 0, 1, 2, 1, 0, 1)
	bears(t, "in 0, zero 0, in 1, zero 0, yield", 1, 0, 1, 0, 1, 0)
	bears(t, "push 1, dup, zero 1, yield", 2, 0, 1, 2, 1)
	fails(t, "push 1, push 2, jump 1", 2, 1, api.ErrHeight)
	fails(t, "push 1, push 2, drop, drop, jump 1", 2, 1, api.ErrHeight)
	fails(t, "push 1, push 2, push 3, zero 1, yield", 3, 1, api.ErrHeight)
	errs(t, sample.Code("push 1, push 2, jump 1"), 1, 1, api.ErrOver)
	errs(t, sample.Code("push 1, push 2, jump 1"), 0, 0, api.ErrOver)
}

// P12.1: of those that are told the least number is done first; of two errors that may be met it says which is.
func TestLeastFirst(t *testing.T) {
	// One on each way of a zero: the one of the lesser number is told.
	fails(t, "push 1, zero 4, drop, yield, drop, yield", 1, 2, api.ErrUnder)
	errs(t, sample.Code("push 1, zero 6, push 1, push 1, push 1, yield, drop, yield"), 2, 4, api.ErrOver)
	errs(t, sample.Code("push 1, zero 5, drop, yield, yield, push 1, push 1, yield"), 1, 2, api.ErrUnder)
	// The next one goes far, and the other one is done ahead of what lies there.
	fails(t, "push 1, zero 4, jump 6, yield, drop, yield, drop, yield", 1, 4, api.ErrUnder)
	errs(t, sample.Code("push 1, zero 4, jump 8, yield, push 1, push 1, push 1, yield, drop, yield"), 2, 6, api.ErrOver)
	errs(t, sample.Code("push 1, zero 4, jump 6, yield, drop, yield, push 1, push 1, yield"), 1, 4, api.ErrUnder)
	// An error ahead of where both ways came from.
	fails(t, "push 1, zero 4, jump 5, drop, jump 3, drop, yield", 1, 3, api.ErrUnder)
	fails(t, "jump 4, drop, add, yield, push 1, zero 7, jump 2, jump 1, yield", 1, 2, api.ErrUnder)
	fails(t, "jump 4, drop, add, yield, push 1, zero 7, jump 1, jump 2, yield", 1, 1, api.ErrUnder)
	fails(t, "jump 4, drop, add, yield, push 1, zero 7, jump 9, jump 2, yield, drop, yield", 1, 2, api.ErrUnder)
	// What lies ahead is done ahead of what comes to it with another height; what lies behind is not.
	fails(t, "push 1, zero 5, jump 4, yield, drop, push 1, jump 4", 1, 4, api.ErrUnder)
	fails(t, "push 1, zero 5, jump 7, yield, yield, push 1, jump 7, drop, yield", 1, 7, api.ErrHeight)
	fails(t, "push 1, zero 5, jump 7, yield, yield, push 1, jump 7, add, yield", 1, 7, api.ErrHeight)
	// Which height is the told one: an error of the one that comes later is not met.
	fails(t, "push 1, zero 6, push 1, push 1, jump 8, yield, push 1, jump 8, drop, drop, yield", 2, 8, api.ErrHeight)
}

// P12.1: what is not come to has no height and brings no error, at the first place that may be so, in the middle, and at the end.
func TestNotComeTo(t *testing.T) {
	bears(t, "yield, yield", 0, 0, -1)
	bears(t, "yield, drop, add, jump 1", 0, 0, -1, -1, -1)
	bears(t, "jump 2, drop, yield", 0, 0, -1, 0)
	bears(t, "jump 2, dup, yield", 0, 0, -1, 0)
	bears(t, "jump 3, push 1, push 1, yield", 0, 0, -1, -1, 0)
	bears(t, "jump 3, push 1, jump 0, yield", 0, 0, -1, -1, 0)
	bears(t, "push 1, jump 4, drop, jump 0, drop, yield", 1, 0, 1, -1, -1, 1, 0)
	bears(t, "push 1, drop, yield, zero 0, jump 3", 1, 0, 1, 0, -1, -1)
	bears(t, "push 1, zero 4, jump 5, swap, jump 5, yield", 1, 0, 1, 0, -1, 0, 0)
	for _, most := range []int{0, 1, 64} {
		tells(t, append([]api.Instr{yield}, pushes(70, yield)...), most, 0, append([]int{0}, slices.Repeat([]int{-1}, 71)...)...)
		tells(t, append([]api.Instr{{Op: api.OpJump, C: 71}}, pushes(70, yield)...), most, 0, append(append([]int{0}, slices.Repeat([]int{-1}, 70)...), 0)...)
	}
}

// P12.2: the most words at an instruction, or only behind one; what is not come to does not count.
func TestMost(t *testing.T) {
	bears(t, "yield", 0, 0)
	bears(t, "send 1, jump 0", 0, 0, 0)
	bears(t, "push 1, jump 1", 1, 0, 1)
	bears(t, "push 1, push 1, add, yield", 2, 0, 1, 2, 1)
	bears(t, "push 1, dup, swap, yield", 2, 0, 1, 2, 2)
	bears(t, "push 1, yield, push 1, push 1, push 1, yield", 1, 0, 1, -1, -1, -1, -1)
	bears(t, "push 1, zero 5, push 1, push 1, yield, yield", 2, 0, 1, 0, 1, 2, 0)
	bears(t, "push 1, zero 4, push 1, yield, push 1, push 1, push 1, yield", 3, 0, 1, 0, 1, 0, 1, 2, 3)
	// What stands behind an Op that gives more than it takes stands at the next one too: the last one, a jump or a yield, gives nothing.
	for count := range 65 {
		tells(t, pushes(count, yield), 64, count, rising(count, count)...)
	}
}

// tree answers a program of nearly nothing but OpZero that are all come to, and its heights: they stand in rows that end with a yield, and each goes to a row that nobody else goes to, as long as there is room.
func tree() ([]api.Instr, []int) {
	l, heights := pushes(64), rising(64)
	var open []int
	for head := 64; len(l)+head < maxCode; {
		for stand := head; stand > 0; stand-- {
			open = append(open, len(l))
			l = append(l, api.Instr{Op: api.OpZero, C: uint32(len(l) + 1)})
			heights = append(heights, stand)
		}
		l, heights = append(l, yield), append(heights, 0)
		head = heights[open[0]] - 1
		l[open[0]].C = uint32(len(l))
		open = open[1:]
	}
	// The row that there is no room for any more is one yield.
	l, heights = append(l, yield), append(heights, heights[slices.IndexFunc(l, func(i api.Instr) bool { return int(i.C) == len(l) })]-1)
	for len(l) < maxCode {
		l, heights = append(l, yield), append(heights, -1)
	}
	return l, heights
}

// soon fails the test unless Heights and Most tell that soon.
func soon(t *testing.T, name string, l []api.Instr, most, greatest int, want []int) {
	t.Helper()
	begin := time.Now()
	tells(t, l, most, greatest, want...)
	// Some milliseconds are enough; ways that are gone one by one would not end at all.
	if took := time.Since(begin); took > 3*time.Second {
		t.Errorf("%s: Heights and Most take %v", name, took)
	}
}

// P12.1, P12.2: the most instructions in a row, with as many OpZero as there can be, however they go.
func TestMaxCode(t *testing.T) {
	const last = maxCode - 1
	row := sample.From(2)
	turns := func(of ...api.Instr) []api.Instr {
		return sample.With(sample.Fill(maxCode, func(n int) api.Instr { return of[n%len(of)] }), last, yield)
	}
	heights := func(of ...int) []int {
		l := sample.Numbers(maxCode)
		for n := range l {
			l[n] = of[n%len(of)]
		}
		return l
	}
	soon(t, "a row", turns(api.Instr{Op: api.OpSend}), 0, 0, heights(0))
	soon(t, "up and down", turns(push, drop), 1, 1, heights(0, 1))
	soon(t, "up far and down far", turns(append(pushes(64), slices.Repeat([]api.Instr{drop}, 64)...)...), 64, 64, heights(append(sample.Numbers(64), down(65)[:64]...)...))
	// All instructions of odd numbers are OpZero, and go to one of an even number.
	zeros := func(at func(n int) int) []api.Instr {
		l := turns(push, drop)
		for n := 1; n < last; n += 2 {
			l[n] = api.Instr{Op: api.OpZero, C: uint32(min(max(at(n), 0), last-1) / 2 * 2)}
		}
		return l
	}
	soon(t, "to the next one", zeros(func(n int) int { return n + 1 }), 1, 1, heights(0, 1))
	soon(t, "to the next but one", zeros(func(n int) int { return n + 3 }), 1, 1, heights(0, 1))
	soon(t, "to the first", zeros(func(int) int { return 0 }), 1, 1, heights(0, 1))
	soon(t, "to the one ahead", zeros(func(n int) int { return n - 1 }), 1, 1, heights(0, 1))
	soon(t, "to the last", zeros(func(int) int { return last }), 1, 1, heights(0, 1))
	soon(t, "to the far half, rising", zeros(func(n int) int { return n + maxCode/2 }), 1, 1, heights(0, 1))
	soon(t, "to the far half, falling", zeros(func(n int) int { return last - n }), 1, 1, heights(0, 1))
	soon(t, "to whichever", zeros(func(int) int { return row.Below(maxCode) }), 1, 1, heights(0, 1))
	// Behind 64 pushes stand 64 OpZero, each of which goes to a place of the same height in whichever of these rows.
	rows := turns(append(pushes(64), slices.Repeat([]api.Instr{{Op: api.OpZero}}, 64)...)...)
	for n := range last {
		if rows[n].Op == api.OpZero {
			rows[n].C = uint32((n+1)%128 + 128*row.Below(128))
		}
	}
	soon(t, "in rows of 64", rows, 64, 64, heights(append(sample.Numbers(64), down(65)[:64]...)...))
	l, want := tree()
	soon(t, "a tree", l, 64, 64, want)
	// An error at the last but one, and at the last.
	errs(t, sample.With(turns(push, drop), last-1, drop), 1, last-1, api.ErrUnder)
	errs(t, sample.With(turns(push, drop), last, api.Instr{Op: api.OpJump, C: 0}), 1, 0, api.ErrHeight)
	errs(t, sample.With(turns(push, push), 2, yield), 1, 1, api.ErrOver)
}

// byTheWords fails the test unless Heights and Most tell what the words say; it answers the error.
func byTheWords(t *testing.T, l []api.Instr, most int) api.Errno {
	t.Helper()
	heights, n, err := heightsOf(l, most)
	if err != api.OK {
		errs(t, l, most, n, err)
		return err
	}
	tells(t, l, most, mostOf(l, heights), heights...)
	return err
}

// P12.1, P12.2: all programs of at most four instructions, with one of each pair of words taken and given that says something else.
func TestSmallByTheWords(t *testing.T) {
	for count := range 5 {
		kinds := sample.Code("push 1, drop, dup, add, yield")
		for c := range uint32(count) {
			kinds = append(kinds, api.Instr{Op: api.OpJump, C: c}, api.Instr{Op: api.OpZero, C: c})
		}
		for l := range sample.All(count, kinds) {
			for most := range 4 {
				byTheWords(t, l, most)
			}
		}
	}
}

// P12.1, P12.2: random programs: without an error, with one thing of such a one turned, and whatever there is.
func TestByTheWords(t *testing.T) {
	row := sample.From(3)
	seen := map[api.Errno]int{}
	for range 20_000 {
		count, most := 1+row.Below(40), row.Below(6)
		l := level(row, count, most)
		if err := byTheWords(t, l, most); err != api.OK {
			t.Fatalf("%s has error %d", sample.Short(l), err)
		}
		turned := l
		for range 1 + row.Below(3) {
			i := row.Within(count)
			turned = sample.With(turned, row.Below(count), i)
		}
		seen[byTheWords(t, turned, most)]++
		byTheWords(t, l, row.About(65))
		byTheWords(t, row.Program(count, row.Below(9)), most)
		byTheWords(t, row.Amiss(count), row.About(65))
	}
	for _, err := range []api.Errno{api.OK, api.ErrEnd, api.ErrUnder, api.ErrOver, api.ErrHeight} {
		if seen[err] < 100 {
			t.Errorf("of 20000 programs with something turned %d tell error %d", seen[err], err)
		}
	}
}

// P12.3: whatever way is gone from instruction 0, as many words stand as is told, never fewer than are taken, and never more than most behind; where one is not come to, nothing is told.
func TestWays(t *testing.T) {
	row := sample.From(4)
	turns := 0
	for range 3000 {
		count, most := 1+row.Below(60), row.Below(9)
		l := level(row, count, most)
		heights, n, err := height.Heights(l, most)
		if err != api.OK {
			t.Fatalf("%s: error %d at %d", sample.Short(l), err, n)
		}
		come, greatest := flow.Come(l), 0
		for n, is := range come {
			if is != (heights[n] >= 0) || heights[n] < -1 {
				t.Fatalf("%s: %d is told of %d; whether it is come to: %v", sample.Short(l), heights[n], n, is)
			}
		}
		for range 20 {
			at, stand := 0, 0
			for range 200 {
				k := kinds[l[at].Op-1]
				if stand != heights[at] || stand < k.Takes || stand-k.Takes+k.Gives > most {
					t.Fatalf("%s: %d words stand at %d, %d is told; it takes %d and gives %d of %d at most", sample.Short(l), stand, at, heights[at], k.Takes, k.Gives, most)
				}
				greatest = max(greatest, stand, stand-k.Takes+k.Gives)
				stand += k.Gives - k.Takes
				behind := sample.Behind(l, at)
				if len(behind) == 0 {
					break
				}
				turns++
				at = behind[row.Below(len(behind))]
			}
		}
		if all, err := height.Most(l, most); err != api.OK || greatest > all {
			t.Fatalf("%s: %d words stand somewhere, and Most tells %d", sample.Short(l), greatest, all)
		}
	}
	if turns < 100_000 {
		t.Errorf("the ways have %d turns", turns)
	}
}

// P12.1, P12.2: with a most of just Most's answer a program has the same heights, and with one fewer ErrOver.
func TestJustMost(t *testing.T) {
	row := sample.From(5)
	for range 3000 {
		l := level(row, 1+row.Below(60), row.Below(9))
		heights, _, err := height.Heights(l, 64)
		if err != api.OK {
			t.Fatalf("%s: error %d", sample.Short(l), err)
		}
		greatest, _ := height.Most(l, 64)
		for most := greatest; most <= 64; most += 1 + row.Below(20) {
			tells(t, l, most, greatest, heights...)
		}
		if greatest == 0 {
			errs(t, l, -1, 0, api.ErrRange)
			continue
		}
		if got, _, err := height.Heights(l, greatest-1); len(got) > 0 || err != api.ErrOver {
			t.Fatalf("Heights(%s, %d) tells %s, %d; Most tells %d", sample.Short(l), greatest-1, sample.Short(got), err, greatest)
		}
	}
}

// R3: what is handed in stays as it is; what becomes of it, and of an answer, later makes no difference to other answers.
func TestApart(t *testing.T) {
	row := sample.From(6)
	for range 500 {
		most := row.Below(9)
		l := level(row, 1+row.Below(20), most)
		if row.Below(3) == 0 {
			l = row.Amiss(1 + row.Below(20))
		}
		was := slices.Clone(l)
		heights, _, err := height.Heights(l, most)
		if _, also := height.Most(l, most); also != err || !slices.Equal(l, was) {
			t.Fatalf("%s has become %s, or error %d is %d", sample.Short(was), sample.Short(l), err, also)
		}
		heightsWas := slices.Clone(heights)
		for n := range l {
			l[n] = none
		}
		if !slices.Equal(heights, heightsWas) {
			t.Fatalf("what is told of %s becomes something else with it", sample.Short(was))
		}
		copy(l, was)
		for n := range heights {
			heights[n] = -2
		}
		if again, _, _ := height.Heights(l, most); !slices.Equal(again, heightsWas) {
			t.Fatalf("Heights(%s, %d) tells %s when it is asked again", sample.Short(l), most, sample.Short(again))
		}
	}
}

// R3: what stands behind a list in memory is none of it.
func TestBehindTheList(t *testing.T) {
	l := sample.Code("push 1, zero 3, yield, yield, drop, jump 9")
	tells(t, l[:4], 1, 1, 0, 1, 0, 0)
	errs(t, l[:3], 1, 1, api.ErrJump)
	errs(t, l, 1, 5, api.ErrJump)
}

// R5: programs that are asked by turns are told as each alone.
func TestByTurns(t *testing.T) {
	a, b, c := sample.Code("push 1, dup, add, yield"), sample.Code("jump 2, dup, yield"), sample.Code("dup, yield")
	for range 3 {
		tells(t, a, 2, 2, 0, 1, 2, 1)
		tells(t, b, 0, 0, 0, -1, 0)
		errs(t, c, 2, 0, api.ErrUnder)
		errs(t, a, 1, 1, api.ErrOver)
		errs(t, a, 65, 0, api.ErrRange)
	}
}
