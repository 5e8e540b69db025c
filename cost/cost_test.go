package cost_test

import (
	"math"
	"slices"
	"testing"
	"time"

	"tappet/api"
	"tappet/cost"
	"tappet/flow"
	"tappet/isa"
	"tappet/sample"
)

const maxCode = 16384

var (
	dup   = api.Instr{Op: api.OpDup}
	yield = api.Instr{Op: api.OpYield}
	none  = api.Instr{Op: 28}
)

// jump and zero answer those that name the instruction c.
func jump(c int) api.Instr { return api.Instr{Op: api.OpJump, C: uint32(c)} }
func zero(c int) api.Instr { return api.Instr{Op: api.OpZero, C: uint32(c)} }

// errs fails the test unless From, Worst and Path tell this error, with this number, and nothing beside it.
func errs(t *testing.T, l []api.Instr, wantN int, want api.Errno) {
	t.Helper()
	if got, n, err := cost.From(l); len(got) > 0 || n != wantN || err != want {
		t.Fatalf("From(%s) tells %s, %d, %d; want %d, %d", sample.Short(l), sample.Short(got), n, err, wantN, want)
	}
	if got, n, err := cost.Worst(l); got != 0 || n != wantN || err != want {
		t.Fatalf("Worst(%s) tells %d, %d, %d; want %d, %d", sample.Short(l), got, n, err, wantN, want)
	}
	if got, err := cost.Path(l); len(got) > 0 || err != want {
		t.Fatalf("Path(%s) tells %s, %d; want error %d", sample.Short(l), sample.Short(got), err, want)
	}
}

// tells fails the test unless From tells these, Worst the first of them, and Path this way.
func tells(t *testing.T, l []api.Instr, path []int, want ...uint32) {
	t.Helper()
	if got, n, err := cost.From(l); !slices.Equal(got, want) || n != 0 || err != api.OK {
		t.Fatalf("From(%s) tells %s, %d, %d; want %s", sample.Short(l), sample.Short(got), n, err, sample.Short(want))
	}
	if got, n, err := cost.Worst(l); got != want[0] || n != 0 || err != api.OK {
		t.Fatalf("Worst(%s) tells %d, %d, %d; want %d", sample.Short(l), got, n, err, want[0])
	}
	if got, err := cost.Path(l); !slices.Equal(got, path) || err != api.OK {
		t.Fatalf("Path(%s) tells %s, %d; want %s", sample.Short(l), sample.Short(got), err, sample.Short(path))
	}
}

// costs is as tells, of a text.
func costs(t *testing.T, text string, path []int, want ...uint32) {
	t.Helper()
	tells(t, sample.Code(text), path, want...)
}

// loops fails the test unless ErrLoop is told of the text's program, at this number.
func loops(t *testing.T, text string, n int) {
	t.Helper()
	errs(t, sample.Code(text), n, api.ErrLoop)
}

// path is a short form.
func path(l ...int) []int { return l }

// row answers that many, a yield the last one of them.
func row(count int) []api.Instr {
	return sample.With(slices.Repeat([]api.Instr{dup}, count), count-1, yield)
}

// falling answers the numbers from n down to 1.
func falling(n int) []uint32 {
	l := make([]uint32, n)
	for k := range l {
		l[k] = uint32(n - k)
	}
	return l
}

// P13.1, P13.2: the chapter's table.
func TestExamples(t *testing.T) {
	costs(t, "push 0, zero 4, dup, yield, yield", path(0, 1, 2, 3), 4, 3, 2, 1, 1)
	loops(t, "zero 1, jump 0", 0)
	costs(t, "yield, jump 1", path(0), 1, 0)
}

// P13.1, P13.2: each of flow.Check's errors, with its number, ahead of a loop, wherever that is.
func TestCheckFirst(t *testing.T) {
	errs(t, nil, 0, api.ErrEnd)
	errs(t, []api.Instr{}, 0, api.ErrEnd)
	errs(t, row(3)[:0], 0, api.ErrEnd)
	for _, ahead := range [][]api.Instr{nil, {jump(0)}, {zero(0)}, {dup, jump(1)}, {zero(1), jump(0)}, {dup, dup, dup}, {yield, jump(1)}} {
		count := len(ahead)
		behind := func(l ...api.Instr) []api.Instr { return append(slices.Clone(ahead), l...) }
		errs(t, behind(none, yield), count, api.ErrOp)
		errs(t, behind(none, none, yield), count, api.ErrOp)
		errs(t, behind(yield, yield, none), count+2, api.ErrOp)
		errs(t, behind(yield, jump(count+1), none, jump(0)), count+2, api.ErrOp)
		errs(t, behind(api.Instr{Op: api.OpZero, C: math.MaxUint32}, none, yield), count+1, api.ErrOp)
		errs(t, behind(yield, jump(count+3), yield), count+1, api.ErrJump)
		errs(t, behind(zero(count+2), jump(0)), count, api.ErrJump)
		errs(t, behind(api.Instr{Op: api.OpZero, C: math.MaxUint32}, yield, dup), count, api.ErrJump)
		errs(t, behind(yield, dup), count+1, api.ErrEnd)
		errs(t, behind(zero(0)), count, api.ErrEnd)
		errs(t, append(behind(), slices.Repeat([]api.Instr{jump(0)}, maxCode+1-count)...), 0, api.ErrLong)
		errs(t, append(behind(), slices.Repeat([]api.Instr{none}, maxCode+1-count)...), 0, api.ErrLong)
	}
	errs(t, row(maxCode+1), 0, api.ErrLong)
	errs(t, make([]api.Instr, maxCode), 0, api.ErrOp)
	errs(t, sample.With(row(maxCode), maxCode-1, dup), maxCode-1, api.ErrEnd)
}

// P13.1: loops of one, by an OpJump and by an OpZero, at instruction 0, in the middle and at the end.
func TestLoopOfOne(t *testing.T) {
	loops(t, "jump 0", 0)
	loops(t, "jump 0, yield", 0)
	loops(t, "zero 0, yield", 0)
	loops(t, "dup, jump 1", 1)
	loops(t, "dup, jump 1, yield", 1)
	loops(t, "dup, zero 1, yield", 1)
	loops(t, "dup, dup, zero 2, dup, yield", 2)
	loops(t, "jump 3, jump 3, dup, zero 3, yield", 3)
	loops(t, "jump 4, yield, yield, yield, jump 4", 4)
	for _, count := range []int{2, 3, 100, maxCode} {
		errs(t, sample.With(row(count), count-1, jump(count-1)), count-1, api.ErrLoop)
		for _, n := range []int{0, (count - 1) / 2, count - 2} {
			errs(t, sample.With(row(count), n, jump(n)), n, api.ErrLoop)
			errs(t, sample.With(row(count), n, zero(n)), n, api.ErrLoop)
		}
	}
}

// P13.1: loops of two and more, that go ahead and back by an OpJump and by an OpZero; the least number of each is told, wherever one comes to it.
func TestLoopOfMore(t *testing.T) {
	loops(t, "dup, jump 0", 0)
	loops(t, "dup, zero 0, yield", 0)
	loops(t, "dup, dup, jump 1", 1)
	loops(t, "dup, zero 3, yield, jump 1", 1)
	loops(t, "jump 2, yield, dup, jump 2", 2)
	loops(t, "jump 2, dup, zero 1, yield", 1)
	loops(t, "jump 3, dup, yield, dup, zero 3, yield", 3)
	loops(t, "jump 3, jump 4, yield, jump 1, zero 1, yield", 1)
	loops(t, "jump 4, dup, jump 4, yield, dup, zero 1, yield", 1)
	loops(t, "jump 4, jump 5, yield, jump 1, dup, jump 3", 1)
	loops(t, "zero 4, jump 3, yield, yield, dup, zero 4, yield", 4)
	// Some that share an instruction.
	loops(t, "jump 4, jump 4, jump 4, yield, zero 2, zero 1, yield", 1)
	loops(t, "jump 4, jump 4, jump 4, yield, zero 1, zero 2, yield", 1)
	loops(t, "jump 4, yield, jump 4, jump 2, zero 3, zero 4, zero 2, yield", 2)
	loops(t, "jump 3, jump 3, yield, zero 3, zero 1, yield", 1)
}

// P13.1: loops of all, at each length.
func TestLoopOfAll(t *testing.T) {
	loops(t, "jump 1, jump 2, jump 0", 0)
	loops(t, "jump 2, jump 0, jump 1", 0)
	loops(t, "zero 2, jump 0, jump 1", 0)
	for _, count := range []int{1, 2, 3, 4, 255, 256, maxCode - 1, maxCode} {
		errs(t, sample.With(row(count), count-1, jump(0)), 0, api.ErrLoop)
		errs(t, sample.Fill(count, func(n int) api.Instr { return jump((n + 1) % count) }), 0, api.ErrLoop)
		errs(t, sample.Fill(count, func(n int) api.Instr { return jump((n + count - 1) % count) }), 0, api.ErrLoop)
	}
}

// P13.1: of several loops the least number of all is told, whether one comes to it ahead of the others or behind them.
func TestSeveralLoops(t *testing.T) {
	loops(t, "zero 0, zero 1, yield", 0)
	loops(t, "dup, zero 1, jump 2", 1)
	loops(t, "jump 3, zero 1, yield, zero 3, jump 1", 1)
	loops(t, "jump 5, dup, zero 1, yield, yield, dup, zero 5, jump 1", 1)
	loops(t, "jump 5, dup, jump 4, yield, jump 1, dup, zero 5, jump 4", 1)
	loops(t, "zero 4, jump 5, yield, jump 3, jump 3, jump 5", 3)
	loops(t, "zero 5, jump 3, yield, jump 3, yield, zero 6, jump 6", 3)
	loops(t, "zero 5, jump 4, yield, yield, jump 4, jump 3", 4)
	loops(t, "jump 6, jump 1, yield, zero 3, jump 1, yield, zero 6, jump 3", 1)
	loops(t, "jump 6, zero 1, jump 6, zero 3, jump 1, yield, zero 6, jump 3", 1)
}

// P13.1: an instruction that comes to a loop, or to which one comes from a loop, or both, but that is in none, is not told.
func TestBesideLoops(t *testing.T) {
	loops(t, "dup, dup, zero 2, yield", 2)
	loops(t, "zero 4, zero 4, dup, jump 4, dup, jump 4", 4)
	loops(t, "jump 2, yield, zero 2, jump 1", 2)
	loops(t, "jump 3, zero 1, yield, jump 1", 1)
	loops(t, "jump 3, jump 5, yield, zero 3, jump 1, zero 5, yield", 3)
	loops(t, "jump 4, jump 2, jump 6, yield, dup, zero 4, jump 1, jump 1", 1)
	loops(t, "jump 4, jump 2, jump 7, yield, dup, zero 4, jump 1, zero 7, yield", 4)
	loops(t, "zero 3, dup, jump 6, dup, dup, jump 6, dup, jump 6", 6)
}

// P13.1, P13.2: a loop that is not come to is none, and its numbers are not told beside another one.
func TestLoopNotComeTo(t *testing.T) {
	costs(t, "yield, jump 1", path(0), 1, 0)
	costs(t, "yield, zero 1, yield", path(0), 1, 0, 0)
	costs(t, "yield, zero 0, jump 1", path(0), 1, 0, 0)
	costs(t, "jump 2, jump 1, yield", path(0, 2), 2, 0, 1)
	costs(t, "jump 2, jump 0, yield", path(0, 2), 2, 0, 1)
	costs(t, "jump 3, dup, jump 1, yield", path(0, 3), 2, 0, 0, 1)
	costs(t, "dup, yield, zero 0, jump 2", path(0, 1), 2, 1, 0, 0)
	loops(t, "jump 2, jump 1, jump 2", 2)
	loops(t, "jump 3, dup, jump 1, dup, jump 3", 3)
	loops(t, "jump 3, jump 0, jump 1, dup, zero 4, yield", 4)
	loops(t, "jump 2, jump 2, dup, zero 2, yield, jump 1", 2)
}

// P13.1, P13.2: a yield alone, and one of each Op ahead of it.
func TestEachOp(t *testing.T) {
	costs(t, "yield", path(0), 1)
	row, kinds := sample.From(1), sample.Kinds()
	for n, k := range kinds {
		for range 20 {
			i := row.Instr(kinds[n : n+1])
			if isa.Jumps(k.Op) {
				i.C = 1
			}
			if k.Op == api.OpYield {
				tells(t, []api.Instr{i, yield}, path(0), 1, 0)
			} else {
				tells(t, []api.Instr{i, yield}, path(0, 1), 2, 1)
			}
		}
	}
}

// P13.1, P13.2: rows without a branch, at each length.
func TestRows(t *testing.T) {
	for _, count := range []int{1, 2, 3, 10, 255, 256, 257, maxCode - 1, maxCode} {
		tells(t, row(count), sample.Numbers(count), falling(count)...)
		half := count / 2
		tells(t, sample.With(row(count), half, yield), sample.Numbers(half+1), append(falling(half+1), make([]uint32, count-half-1)...)...)
	}
}

// P13.1, P13.2: an OpZero whose first one behind has the greatest worst, whose second one has, whose both have as much, and that has one alone.
func TestZero(t *testing.T) {
	costs(t, "zero 3, dup, yield, yield", path(0, 1, 2), 3, 2, 1, 1)
	costs(t, "zero 2, yield, dup, yield", path(0, 2, 3), 3, 1, 2, 1)
	costs(t, "zero 2, yield, yield", path(0, 1), 2, 1, 1)
	costs(t, "zero 3, dup, yield, dup, yield", path(0, 1, 2), 3, 2, 1, 2, 1)
	costs(t, "zero 1, yield", path(0, 1), 2, 1)
	costs(t, "dup, zero 2, dup, yield", path(0, 1, 2, 3), 4, 3, 2, 1)
	// The one that it names has the lesser number: the next one is the first all the same.
	costs(t, "jump 2, yield, zero 1, yield", path(0, 2, 3), 3, 1, 2, 1)
	costs(t, "jump 3, dup, yield, zero 1, dup, yield", path(0, 3, 4, 5), 4, 2, 1, 3, 2, 1)
	costs(t, "jump 3, dup, yield, zero 1, yield", path(0, 3, 1, 2), 4, 2, 1, 3, 1)
	costs(t, "jump 2, yield, zero 1, dup, yield", path(0, 2, 3, 4), 4, 1, 3, 2, 1)
}

// P13.1, P13.2: ways that part and meet again, at lengths that differ, and that part more than once.
func TestMeet(t *testing.T) {
	costs(t, "zero 4, dup, dup, dup, yield", path(0, 1, 2, 3, 4), 5, 4, 3, 2, 1)
	costs(t, "zero 3, dup, jump 6, dup, dup, dup, yield", path(0, 3, 4, 5, 6), 5, 3, 2, 4, 3, 2, 1)
	costs(t, "zero 4, dup, dup, jump 5, dup, yield", path(0, 1, 2, 3, 5), 5, 4, 3, 2, 2, 1)
	costs(t, "zero 3, dup, jump 5, dup, dup, yield", path(0, 1, 2, 5), 4, 3, 2, 3, 2, 1)
	costs(t, "zero 2, dup, zero 5, dup, dup, yield", path(0, 1, 2, 3, 4, 5), 6, 5, 4, 3, 2, 1)
	costs(t, "zero 3, zero 5, yield, dup, zero 2, dup, yield", path(0, 3, 4, 5, 6), 5, 3, 1, 4, 3, 2, 1)
	costs(t, "zero 3, zero 5, yield, yield, yield, dup, dup, yield", path(0, 1, 5, 6, 7), 5, 4, 1, 1, 0, 3, 2, 1)
	// What is gone to first has its worst by the way that is longer, not by the one that comes to it first.
	costs(t, "zero 5, jump 3, yield, dup, yield, dup, jump 1", path(0, 5, 6, 1, 3, 4), 6, 3, 0, 2, 1, 5, 4)
}

// P13.1, P13.2: behind an instruction comes one of a lesser number, without a loop.
func TestBack(t *testing.T) {
	costs(t, "jump 2, yield, jump 1", path(0, 2, 1), 3, 1, 2)
	costs(t, "jump 3, dup, yield, jump 1", path(0, 3, 1, 2), 4, 2, 1, 3)
	costs(t, "jump 4, yield, jump 1, jump 2, jump 3", path(0, 4, 3, 2, 1), 5, 1, 2, 3, 4)
	costs(t, "zero 4, jump 6, yield, yield, zero 2, jump 1, jump 3", path(0, 4, 5, 1, 6, 3), 6, 3, 1, 1, 5, 4, 2)
	costs(t, "jump 3, dup, jump 6, zero 1, zero 2, dup, yield", path(0, 3, 4, 5, 6), 5, 3, 2, 4, 3, 2, 1)
	costs(t, "jump 4, dup, dup, yield, zero 1, yield", path(0, 4, 1, 2, 3), 5, 3, 2, 1, 4, 1)
}

// P13.1, P13.2: what is not come to is told 0, at the first free place, in the middle and at the end; what stands there makes no difference.
func TestNotComeTo(t *testing.T) {
	costs(t, "jump 2, dup, yield", path(0, 2), 2, 0, 1)
	costs(t, "jump 3, dup, jump 0, yield", path(0, 3), 2, 0, 0, 1)
	costs(t, "dup, jump 4, dup, dup, dup, yield", path(0, 1, 4, 5), 4, 3, 0, 0, 2, 1)
	costs(t, "dup, yield, dup, yield", path(0, 1), 2, 1, 0, 0)
	costs(t, "yield, dup, dup, yield", path(0), 1, 0, 0, 0)
	costs(t, "zero 3, yield, dup, yield", path(0, 1), 2, 1, 0, 1)
	costs(t, "zero 3, jump 5, yield, dup, yield, yield", path(0, 1, 5), 3, 2, 0, 2, 1, 1)
	for _, i := range sample.Code("dup, drop, swap, div, out 9, send 3, zero 0, zero 1, zero 2, zero 3, jump 0, jump 1, jump 2, jump 3, yield") {
		tells(t, []api.Instr{jump(2), i, dup, yield}, path(0, 2, 3), 3, 0, 2, 1)
		tells(t, []api.Instr{dup, jump(3), i, yield}, path(0, 1, 3), 3, 2, 0, 1)
		tells(t, []api.Instr{dup, dup, yield, i, jump(3)}, path(0, 1, 2), 3, 2, 1, 0, 0)
	}
	for _, i := range []api.Instr{yield, jump(0), jump(1), jump(2)} {
		tells(t, []api.Instr{dup, yield, i}, path(0, 1), 2, 1, 0)
	}
}

// holds fails the test unless what is told of a program without a loop is just what the words say of each worst and each place of the way.
func holds(t *testing.T, l []api.Instr) []uint32 {
	t.Helper()
	worst, n, err := cost.From(l)
	if err != api.OK || n != 0 || len(worst) != len(l) {
		t.Fatalf("From(%s) tells %s, %d, %d", sample.Short(l), sample.Short(worst), n, err)
	}
	for n, is := range flow.Come(l) {
		want := uint32(0)
		if is {
			want = 1
			for _, next := range sample.Behind(l, n) {
				want = max(want, worst[next]+1)
			}
		}
		if worst[n] != want {
			t.Fatalf("From(%s) tells %d of %d, want %d", sample.Short(l), worst[n], n, want)
		}
	}
	tells(t, l, pathOf(l, worst), worst...)
	return worst
}

// soon fails the test unless that is over soon.
func soon(t *testing.T, name string, does func()) {
	t.Helper()
	begin := time.Now()
	does()
	// Some milliseconds are enough; ways that are gone one by one would not end at all.
	if took := time.Since(begin); took > 3*time.Second {
		t.Errorf("%s: From, Worst and Path take %v", name, took)
	}
}

// zeros answers the most instructions there may be, an OpZero each that goes where it is told, and a yield behind them.
func zeros(at func(n int) int) []api.Instr {
	const last = maxCode - 1
	return sample.With(sample.Fill(maxCode, func(n int) api.Instr { return zero(min(max(at(n), 0), last)) }), last, yield)
}

// P13.1, P13.2: the most instructions in a row, with as many OpZero as there can be, without a loop.
func TestMaxCode(t *testing.T) {
	row := sample.From(2)
	for name, at := range map[string]func(n int) int{
		"to the next":            func(n int) int { return n + 1 },
		"to the next but one":    func(n int) int { return n + 2 },
		"to the last":            func(int) int { return maxCode },
		"to whichever is behind": func(n int) int { return n + 1 + row.Below(maxCode-n) },
		"to one that is near":    func(n int) int { return n + 1 + row.Below(9) },
		"to the far half":        func(n int) int { return n + maxCode/2 },
		"to the far half, back":  func(n int) int { return max(n+1, maxCode-n) },
	} {
		soon(t, name, func() { tells(t, zeros(at), sample.Numbers(maxCode), falling(maxCode)...) })
	}
	// Rows of OpZero with a yield behind; all go to rows ahead of their own, so that the way goes back from row to row.
	const size = 16
	for name, at := range map[string]func(n int) int{
		"to the row ahead":       func(n int) int { return n/size*size - size },
		"to whichever row ahead": func(n int) int { return row.Below(max(n/size*size, 1)) },
		"to the first row":       func(n int) int { return 1 + n%(size-1) },
	} {
		l := sample.Fill(maxCode, func(n int) api.Instr {
			if n%size == size-1 || n < size {
				return yield
			}
			return zero(max(at(n), 1))
		})
		l[0] = jump(maxCode - size)
		soon(t, name, func() { holds(t, l) })
	}
	soon(t, "one by one from the end", func() {
		l := sample.Fill(maxCode, func(n int) api.Instr { return jump(n - 1) })
		l[0], l[1] = jump(maxCode-1), yield
		way, worst := sample.Numbers(maxCode), falling(maxCode)
		slices.Reverse(way[1:])
		slices.Reverse(worst[1:])
		tells(t, l, way, worst...)
	})
	soon(t, "the first alone", func() {
		tells(t, sample.With(zeros(func(n int) int { return n }), 0, yield), path(0), append([]uint32{1}, make([]uint32, maxCode-1)...)...)
	})
}

// P13.1: the most instructions, as many OpZero among them as there can be, with loops: at the end, of all, and wherever it may be.
func TestMaxCodeLoops(t *testing.T) {
	const last, half = maxCode - 1, maxCode / 2
	for name, x := range map[string]struct {
		l []api.Instr
		n int
	}{
		"the last alone":        {sample.With(zeros(func(n int) int { return n + 2 }), last, jump(last)), last},
		"the last two":          {sample.With(zeros(func(n int) int { return n + 2 }), last, jump(last-1)), last - 1},
		"all":                   {sample.With(zeros(func(n int) int { return n + 2 }), last, jump(0)), 0},
		"all but one":           {sample.With(zeros(func(n int) int { return n + 2 }), last, jump(1)), 1},
		"each one alone":        {zeros(func(n int) int { return n }), 0},
		"all to the first":      {zeros(func(int) int { return 0 }), 0},
		"the far half, each":    {zeros(func(n int) int { return max(n, half) }), half},
		"the far half, to it":   {zeros(func(n int) int { return min(n+1, half) }), half},
		"the near half, by one": {sample.With(zeros(func(n int) int { return n + 1 }), half, zero(7)), 7},
	} {
		soon(t, name, func() { errs(t, x.l, x.n, api.ErrLoop) })
	}
	// One comes from a loop to the near half, and from there to another one, but to none of these again.
	between := sample.Fill(maxCode, func(n int) api.Instr {
		if n < half {
			return zero(half + 2 + n/2)
		}
		return jump(min(n+1, last))
	})
	between[0], between[half-1] = jump(half), jump(half+2)
	between[half], between[half+1] = zero(half), jump(1)
	soon(t, "between two loops", func() { errs(t, between, half, api.ErrLoop) })
	row := sample.From(3)
	whichever := zeros(func(int) int { return row.Below(maxCode) })
	soon(t, "whichever there is", func() {
		if _, n, err := cost.From(whichever); err != api.ErrLoop || n > 100 {
			t.Errorf("From tells %d, %d", n, err)
		}
	})
}

// byTheWords fails the test unless all calls tell of this program what the words say; it answers the error.
func byTheWords(t *testing.T, l []api.Instr) api.Errno {
	t.Helper()
	worst, n, err := fromOf(l)
	if err != api.OK {
		errs(t, l, n, err)
		return err
	}
	tells(t, l, pathOf(l, worst), worst...)
	return err
}

// P13.1, P13.2, P13.3: all programs of at most five instructions, of those that go on alike one alone; the worst is told as if all ways were gone.
func TestSmallByTheWords(t *testing.T) {
	for count := range 6 {
		kinds := []api.Instr{dup, yield}
		for c := range count {
			kinds = append(kinds, jump(c), zero(c))
		}
		for l := range sample.All(count, kinds) {
			if byTheWords(t, l) != api.OK {
				continue
			}
			worst, _, _ := cost.From(l)
			for n, is := range flow.Come(l) {
				if is && worst[n] != longest(l, n) {
					t.Fatalf("From(%s) tells %d of %d, from where a way has %d", sample.Short(l), worst[n], n, longest(l, n))
				}
			}
		}
	}
}

// P13.1, P13.2: random programs: without an error, with one thing of such a one turned, and whatever there is; From tells ErrLoop just where flow.Order tells no order.
func TestByTheWords(t *testing.T) {
	row := sample.From(4)
	seen := map[api.Errno]int{}
	back, branches, some := 0, 0, 0
	for range 5000 {
		count := 1 + row.Below(40)
		l := ending(row, count)
		if err := byTheWords(t, l); err != api.OK {
			t.Fatalf("%s has error %d", sample.Short(l), err)
		}
		come := flow.Come(l)
		for n, is := range come {
			behind := sample.Behind(l, n)
			if is && len(behind) == 2 {
				branches++
			}
			if is && slices.ContainsFunc(behind, func(next int) bool { return next < n }) {
				back++
			}
		}
		if slices.Contains(come, false) {
			some++
		}
		for _, l := range [][]api.Instr{
			sample.With(l, row.Below(count), jump(row.Below(count))), sample.With(l, row.Below(count), zero(row.Below(count))), row.Program(count, row.Below(9)), row.Amiss(count),
		} {
			err := byTheWords(t, l)
			seen[err]++
			if _, ok := flow.Order(l); ok != (err == api.OK) {
				t.Fatalf("%s: From tells error %d; Order %v", sample.Short(l), err, ok)
			}
		}
	}
	for _, err := range []api.Errno{api.OK, api.ErrOp, api.ErrJump, api.ErrEnd, api.ErrLoop} {
		if seen[err] < 300 {
			t.Errorf("of 20000 programs %d tell error %d", seen[err], err)
		}
	}
	if back < 5000 || branches < 5000 || some < 1000 {
		t.Errorf("of 5000 programs without a loop %d instructions go back, %d go on to two, %d programs have what is not come to", back, branches, some)
	}
}

// P13.3: whatever way is gone from an instruction that is come to, it ends, and has no more instructions than its worst; the way that Path tells has just as many.
func TestWays(t *testing.T) {
	row := sample.From(5)
	most := 0
	for range 2000 {
		l := ending(row, 1+row.Below(60))
		worst := holds(t, l)
		for n, is := range flow.Come(l) {
			for range 5 {
				count, at := uint32(1), n
				for is {
					behind := slices.Collect(flow.Behind(l, at))
					if len(behind) == 0 {
						break
					}
					at = behind[row.Below(len(behind))]
					if count++; count > worst[n] {
						t.Fatalf("%s: a way from %d has more than %d instructions", sample.Short(l), n, worst[n])
					}
				}
			}
		}
		goes(t, l, worst[0])
		most = max(most, int(worst[0]))
	}
	if most < 40 {
		t.Errorf("the longest way has %d instructions", most)
	}
}

// goes fails the test unless Path begins with 0, goes on to one that comes behind, ends at a yield, and is that long.
func goes(t *testing.T, l []api.Instr, worst uint32) {
	t.Helper()
	way, err := cost.Path(l)
	if err != api.OK || uint32(len(way)) != worst || way[0] != 0 || l[way[len(way)-1]].Op != api.OpYield {
		t.Fatalf("Path(%s) tells %v, %d", sample.Short(l), way, err)
	}
	for k := 1; k < len(way); k++ {
		if !slices.Contains(slices.Collect(flow.Behind(l, way[k-1])), way[k]) {
			t.Fatalf("Path(%s) tells %v, where %d does not come behind", sample.Short(l), way, way[k])
		}
	}
}

// R3: what is handed in stays as it is; what becomes of it, and of an answer, later makes no difference to other answers.
func TestApart(t *testing.T) {
	row := sample.From(6)
	for range 500 {
		l := ending(row, 1+row.Below(20))
		if row.Below(3) == 0 {
			l = row.Amiss(1 + row.Below(20))
		}
		was := slices.Clone(l)
		worst, n, err := cost.From(l)
		way, _ := cost.Path(l)
		cost.Worst(l)
		if !slices.Equal(l, was) {
			t.Fatalf("%s has become %s", sample.Short(was), sample.Short(l))
		}
		worstWas, wayWas := slices.Clone(worst), slices.Clone(way)
		for k := range l {
			l[k] = none
		}
		if !slices.Equal(worst, worstWas) || !slices.Equal(way, wayWas) {
			t.Fatalf("what is told of %s becomes something else with it", sample.Short(was))
		}
		copy(l, was)
		for k := range worst {
			worst[k] = 9
		}
		for k := range way {
			way[k] = -1
		}
		if err != api.OK {
			errs(t, l, n, err)
		} else {
			tells(t, l, wayWas, worstWas...)
		}
	}
}

// R3: what stands behind a list in memory is none of it.
func TestBehindTheList(t *testing.T) {
	l := sample.Code("dup, zero 3, yield, yield, dup, jump 9")
	tells(t, l[:4], path(0, 1, 2), 3, 2, 1, 1)
	errs(t, l[:3], 1, api.ErrJump)
	errs(t, l, 5, api.ErrJump)
}

// R5: programs that are asked by turns are told as each alone.
func TestByTurns(t *testing.T) {
	for range 3 {
		costs(t, "zero 3, dup, yield, yield", path(0, 1, 2), 3, 2, 1, 1)
		loops(t, "dup, jump 1", 1)
		costs(t, "yield", path(0), 1)
		errs(t, []api.Instr{dup}, 0, api.ErrEnd)
		loops(t, "jump 0", 0)
	}
}
