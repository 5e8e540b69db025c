package flow_test

import (
	"math"
	"slices"
	"testing"
	"time"

	"tappet/api"
	"tappet/flow"
	"tappet/isa"
	"tappet/sample"
)

const (
	maxCode = 16384
	top     = math.MaxUint32 // the greatest number of the machine
)

// The instructions that stand in many tests.
var (
	dup   = api.Instr{Op: api.OpDup}
	push1 = api.Instr{Op: api.OpPush, C: 1}
	yield = api.Instr{Op: api.OpYield}
	none  = api.Instr{Op: 28}
)

// jump and zero answer those that name the instruction c.
func jump(c uint32) api.Instr { return api.Instr{Op: api.OpJump, C: c} }
func zero(c uint32) api.Instr { return api.Instr{Op: api.OpZero, C: c} }

// program is a short form.
func program(l ...api.Instr) []api.Instr { return l }

// dups answers that many, a yield the last one of them.
func dups(count int) []api.Instr {
	return sample.Fill(count, func(n int) api.Instr {
		if n == count-1 {
			return yield
		}
		return dup
	})
}

// asked are numbers that there are and that there are not, of that many instructions.
func asked(count int) []int {
	l := []int{math.MinInt, math.MinInt32, -1 << 32, -count, -1, 0, 1, count / 2, count - 2, count - 1, count, count + 1, 1 << 31, 1 << 32, 1<<32 + 1, math.MaxInt}
	for n := range min(count, 8) {
		l = append(l, n)
	}
	return l
}

// checks fails the test unless Check tells that; beside an error all other calls must tell nothing.
func checks(t *testing.T, l []api.Instr, wantN int, want api.Errno) {
	t.Helper()
	if n, err := flow.Check(l); n != wantN || err != want {
		t.Fatalf("Check(%s) tells %d, %d; want %d, %d", sample.Short(l), n, err, wantN, want)
	}
	if want == api.OK {
		return
	}
	for _, n := range asked(len(l)) {
		behinds(t, l, n)
	}
	comes(t, l)
	orders(t, l, nil, false)
}

// behinds fails the test unless Behind goes over these.
func behinds(t *testing.T, l []api.Instr, n int, want ...int) {
	t.Helper()
	if got := slices.Collect(flow.Behind(l, n)); !slices.Equal(got, want) {
		t.Fatalf("Behind(%s, %d) goes over %v, want %v", sample.Short(l), n, got, want)
	}
}

// comes fails the test unless Come tells of each whether it is come to.
func comes(t *testing.T, l []api.Instr, want ...bool) {
	t.Helper()
	if got := flow.Come(l); !slices.Equal(got, want) {
		t.Fatalf("Come(%s) tells %s, want %s", sample.Short(l), sample.Short(got), sample.Short(want))
	}
}

// comesTo fails the test unless Come tells that just these are come to.
func comesTo(t *testing.T, l []api.Instr, want ...int) {
	t.Helper()
	all := make([]bool, len(l))
	for _, n := range want {
		all[n] = true
	}
	comes(t, l, all...)
}

// orders fails the test unless Order tells that.
func orders(t *testing.T, l []api.Instr, want []int, wantOk bool) {
	t.Helper()
	if got, ok := flow.Order(l); !slices.Equal(got, want) || ok != wantOk {
		t.Fatalf("Order(%s) tells %s, %v; want %s, %v", sample.Short(l), sample.Short(got), ok, sample.Short(want), wantOk)
	}
}

// goes fails the test unless just these are come to, in this order.
func goes(t *testing.T, l []api.Instr, order ...int) {
	t.Helper()
	checks(t, l, 0, api.OK)
	comesTo(t, l, order...)
	orders(t, l, order, true)
}

// loops fails the test unless just these are come to, and there is a loop.
func loops(t *testing.T, l []api.Instr, come ...int) {
	t.Helper()
	checks(t, l, 0, api.OK)
	comesTo(t, l, come...)
	orders(t, l, nil, false)
}

// P11.1, P11.2, P11.3: the chapter's table.
func TestExamples(t *testing.T) {
	l := program(zero(2), yield, yield)
	goes(t, l, 0, 1, 2)
	behinds(t, l, 0, 1, 2)
	l = program(zero(1), jump(0))
	loops(t, l, 0, 1)
	behinds(t, l, 0, 1)
	l = program(jump(3), dup, jump(0), yield)
	goes(t, l, 0, 3)
	behinds(t, l, 0, 3)
	checks(t, program(push1), 0, api.ErrEnd)
	checks(t, program(jump(1)), 0, api.ErrJump)
	checks(t, nil, 0, api.ErrEnd)
}

// P11.1: no instruction, one of each Op, and of whatever is none.
func TestCheckOne(t *testing.T) {
	checks(t, nil, 0, api.ErrEnd)
	checks(t, []api.Instr{}, 0, api.ErrEnd)
	checks(t, program(dup, yield)[:0], 0, api.ErrEnd)
	row := sample.From(1)
	for _, k := range sample.Kinds() {
		for range 50 {
			i := row.Instr([]sample.Kind{k})
			switch k.Op {
			case api.OpJump, api.OpZero:
				i.C = max(i.C, 1)
				checks(t, program(i), 0, api.ErrJump)
			case api.OpYield:
				checks(t, program(i), 0, api.OK)
			default:
				checks(t, program(i), 0, api.ErrEnd)
			}
		}
	}
	checks(t, program(jump(0)), 0, api.OK)
	checks(t, program(zero(0)), 0, api.ErrEnd)
	for op := range 256 {
		i := api.Instr{Op: uint8(op), A: 3, B: 16}
		checks(t, program(i), 0, api.ErrOp)
	}
	checks(t, program(api.Instr{}), 0, api.ErrOp)
	checks(t, program(none), 0, api.ErrOp)
	checks(t, program(api.Instr{Op: api.OpYield, C: 1}), 0, api.ErrOp)
	checks(t, program(api.Instr{Op: api.OpJump, A: 1, C: 9}), 0, api.ErrOp)
}

// P11.1: the most, and one more, that is told ahead of all else.
func TestCheckMany(t *testing.T) {
	for _, count := range []int{1, 2, 3, 255, 256, 257, maxCode - 1, maxCode} {
		checks(t, dups(count), 0, api.OK)
		checks(t, sample.With(dups(count), count-1, dup), count-1, api.ErrEnd)
		checks(t, sample.With(dups(count), 0, jump(uint32(count))), 0, api.ErrJump)
		checks(t, sample.With(dups(count), count-1, none), count-1, api.ErrOp)
	}
	for _, count := range []int{maxCode + 1, maxCode + 2, 2 * maxCode, 65536, 1 << 20} {
		checks(t, dups(count), 0, api.ErrLong)
		checks(t, sample.With(dups(count), 0, none), 0, api.ErrLong)
		checks(t, sample.With(dups(count), 0, jump(top)), 0, api.ErrLong)
		checks(t, sample.With(dups(count), count/2, none), 0, api.ErrLong)
		checks(t, sample.With(dups(count), count-1, none), 0, api.ErrLong)
		checks(t, sample.With(dups(count), count-1, zero(top)), 0, api.ErrLong)
		checks(t, sample.With(dups(count), count-1, dup), 0, api.ErrLong)
		checks(t, make([]api.Instr, count), 0, api.ErrLong)
	}
}

// P11.1: what is no instruction is told ahead of every jump to none, and of the end, wherever those stand; the first one is.
func TestCheckOp(t *testing.T) {
	for _, count := range []int{1, 2, 3, 9, maxCode} {
		for _, n := range []int{0, count / 2, count - 1} {
			for _, i := range []api.Instr{none, {}, {Op: 255}, {Op: api.OpJump, B: 1}, {Op: api.OpZero, A: 1, C: top}, {Op: api.OpLoad, A: 3}, {Op: api.OpYield, C: 1}} {
				l := sample.With(dups(count), n, i)
				checks(t, l, n, api.ErrOp)
				for _, at := range []int{0, count / 2, count - 1} {
					if at == n {
						continue
					}
					checks(t, sample.With(l, at, jump(uint32(count))), n, api.ErrOp)
					checks(t, sample.With(l, at, zero(top)), n, api.ErrOp)
					checks(t, sample.With(l, at, none), min(n, at), api.ErrOp)
				}
				if n < count-1 {
					checks(t, sample.With(l, count-1, dup), n, api.ErrOp)
				}
				if n > 0 && n < count-1 {
					checks(t, sample.With(sample.With(l, 0, jump(top)), count-1, zero(top)), n, api.ErrOp)
				}
			}
		}
	}
}

// P11.1: an OpJump or OpZero that goes to none, at its edge, is told ahead of the end; the first one is.
func TestCheckJump(t *testing.T) {
	for _, count := range []int{1, 2, 3, 9, 256, 257, maxCode} {
		for _, n := range []int{0, count / 2, count - 1} {
			for _, to := range []func(uint32) api.Instr{jump, zero} {
				want, wantN := api.OK, 0
				if n == count-1 && to(0).Op == api.OpZero {
					want, wantN = api.ErrEnd, n
				}
				for _, c := range []uint32{0, uint32(n), uint32(count / 2), uint32(count - 1)} {
					checks(t, sample.With(dups(count), n, to(c)), wantN, want)
				}
				for _, c := range []uint32{uint32(count), uint32(count + 1), 16384, 16385, 65536 * 3, 1 << 31, top - 1, top} {
					l := sample.With(dups(count), n, to(c))
					checks(t, l, n, api.ErrJump)
					if n < count-1 {
						checks(t, sample.With(l, count-1, dup), n, api.ErrJump)
						checks(t, sample.With(l, count-1, zero(0)), n, api.ErrJump)
					}
					checks(t, sample.With(l, 0, zero(c)), 0, api.ErrJump)
					checks(t, sample.With(l, count-1, jump(c)), n, api.ErrJump)
				}
			}
		}
	}
}

// P11.1: the C of another Op is the number of no instruction.
func TestCheckOthers(t *testing.T) {
	for _, c := range []uint32{0, 1, 3, 4, maxCode, top} {
		for _, i := range []api.Instr{{Op: api.OpPush, C: c}, {Op: api.OpLoad, A: 1, C: c}, {Op: api.OpLoad, A: 4, C: c}, {Op: api.OpStore, A: 2, C: c}} {
			for n := range 3 {
				checks(t, sample.With(dups(4), n, i), 0, api.OK)
			}
			checks(t, sample.With(dups(4), 3, i), 3, api.ErrEnd)
		}
	}
}

// P11.1: which instruction may be the last one; what comes ahead of it makes no difference.
func TestCheckEnd(t *testing.T) {
	row := sample.From(2)
	for _, ahead := range [][]api.Instr{nil, program(dup), program(yield), program(jump(0)), program(zero(0), push1), program(yield, yield, yield)} {
		last := len(ahead)
		for _, k := range sample.Kinds() {
			i := row.Instr([]sample.Kind{k})
			if isa.Jumps(k.Op) {
				i.C = uint32(row.Below(last + 1))
			}
			l := append(slices.Clone(ahead), i)
			if k.Op == 19 || k.Op == 27 {
				checks(t, l, 0, api.OK)
			} else {
				checks(t, l, last, api.ErrEnd)
			}
		}
		checks(t, append(slices.Clone(ahead), zero(uint32(last))), last, api.ErrEnd)
		checks(t, append(slices.Clone(ahead), jump(uint32(last))), 0, api.OK)
	}
}

// P11.1: what stands behind a list in memory is none of it.
func TestCheckBehindTheList(t *testing.T) {
	l := program(jump(2), dup, yield, none, jump(top))
	checks(t, l[:3], 0, api.OK)
	checks(t, l[:2], 0, api.ErrJump)
	checks(t, l[1:2], 0, api.ErrEnd)
	checks(t, l, 3, api.ErrOp)
	goes(t, l[:3], 0, 2)
	behinds(t, l[:3], 1, 2)
	behinds(t, l[:3], 3)
}

// P11.2: each Op, at the first place and in the middle.
func TestBehindEachOp(t *testing.T) {
	row := sample.From(3)
	for _, k := range sample.Kinds() {
		for range 50 {
			for _, n := range []int{0, 1, 4} {
				i := row.Instr([]sample.Kind{k})
				want := []int{n + 1}
				switch k.Op {
				case api.OpJump:
					i.C = uint32(row.Below(6))
					want = []int{int(i.C)}
				case api.OpZero:
					i.C = uint32(row.Below(6))
					if int(i.C) != n+1 {
						want = append(want, int(i.C))
					}
				case api.OpYield:
					want = nil
				}
				behinds(t, sample.With(dups(6), n, i), n, want...)
			}
		}
	}
}

// P11.2: an OpJump and an OpZero to itself, ahead, behind and to the next one; the next one comes first, and once.
func TestBehindJumps(t *testing.T) {
	for _, count := range []int{5, 300, maxCode} {
		for _, n := range []int{0, 1, count / 2, count - 2} {
			for _, c := range []int{0, 1, n - 1, n, n + 1, n + 2, count - 2, count - 1} {
				if c < 0 || c >= count {
					continue
				}
				behinds(t, sample.With(dups(count), n, jump(uint32(c))), n, c)
				l := sample.With(dups(count), n, zero(uint32(c)))
				if c == n+1 {
					behinds(t, l, n, c)
				} else {
					behinds(t, l, n, n+1, c)
				}
			}
		}
		for _, c := range []int{0, 1, count / 2, count - 2, count - 1} {
			behinds(t, sample.With(dups(count), count-1, jump(uint32(c))), count-1, c)
		}
		behinds(t, dups(count), count-1)
	}
	behinds(t, program(jump(0)), 0, 0)
	behinds(t, program(yield), 0)
}

// P11.2: of a number that no instruction has nothing is gone over; of each that one has what comes behind it, come to or not.
func TestBehindNumbers(t *testing.T) {
	for _, l := range [][]api.Instr{program(yield), program(jump(0)), program(zero(0), jump(1), dup, jump(0)), dups(300), dups(maxCode)} {
		for _, n := range append(asked(len(l)), sample.Edges()...) {
			behinds(t, l, n, behindOf(l, n)...)
			if seq := flow.Behind(l, n); seq == nil {
				t.Fatalf("Behind(%s, %d) is nil", sample.Short(l), n)
			}
		}
	}
	l := program(yield, dup, zero(0), jump(3))
	behinds(t, l, 1, 2)
	behinds(t, l, 2, 3, 0)
	behinds(t, l, 3, 3)
}

// P11.2: of a program with an error nothing is gone over, whatever its instruction of that number is.
func TestBehindError(t *testing.T) {
	for _, l := range [][]api.Instr{
		nil, {}, {dup}, {zero(0)}, {jump(1)}, {none}, {yield, none, yield}, {yield, dup, jump(3)}, {jump(1), zero(0), dup}, {dup, yield, zero(0)}, make([]api.Instr, 3), dups(maxCode + 1),
	} {
		for _, n := range append(asked(len(l)), sample.Edges()...) {
			behinds(t, l, n)
			if seq := flow.Behind(l, n); seq == nil {
				t.Fatalf("Behind(%s, %d) is nil", sample.Short(l), n)
			}
		}
	}
}

// P11.2: it may be left early at each place, and be gone over again with the same answer.
func TestBehindLeftEarly(t *testing.T) {
	l := program(zero(3), zero(2), jump(1), zero(3), yield)
	for n := -1; n <= len(l); n++ {
		want := behindOf(l, n)
		seq := flow.Behind(l, n)
		for stop := 1; stop <= len(want)+1; stop++ {
			var got []int
			seq(func(next int) bool {
				got = append(got, next)
				return len(got) < stop
			})
			if !slices.Equal(got, want[:min(stop, len(want))]) {
				t.Errorf("Behind(%d), left at place %d, goes over %v of %v", n, stop, got, want)
			}
			if again := slices.Collect(seq); !slices.Equal(again, want) {
				t.Errorf("Behind(%d), gone over again, goes over %v, not %v", n, again, want)
			}
		}
		for outer := range seq {
			if inner := slices.Collect(seq); !slices.Equal(inner, want) {
				t.Errorf("Behind(%d), gone over at %d of itself, goes over %v, not %v", n, outer, inner, want)
			}
		}
	}
}

// P11.3: of a program with an error there is no order, and of nothing is told whether it is come to.
func TestComeOrderError(t *testing.T) {
	for _, l := range [][]api.Instr{
		nil, {}, {dup}, {zero(0)}, {jump(1)}, {none}, {yield, none}, {none, yield}, {yield, dup, jump(3)}, {yield, zero(top), yield}, {yield, dup}, {jump(0), zero(0)}, make([]api.Instr, 9), dups(maxCode + 1),
	} {
		if _, err := flow.Check(l); err == api.OK {
			t.Fatalf("Check(%s) tells no error", sample.Short(l))
		}
		comes(t, l)
		orders(t, l, nil, false)
	}
}

// P11.3: programs of which not all is come to: at the first place that may be so, in the middle, at the end; what is not come to makes no difference.
func TestNotComeTo(t *testing.T) {
	goes(t, program(yield), 0)
	goes(t, program(yield, yield), 0)
	goes(t, program(yield, dup, dup, jump(0)), 0)
	goes(t, program(jump(2), dup, yield), 0, 2)
	goes(t, program(jump(2), jump(2), yield), 0, 2)
	goes(t, program(jump(2), yield, dup, yield), 0, 2, 3)
	goes(t, program(dup, jump(4), zero(4), zero(1), yield), 0, 1, 4)
	goes(t, program(dup, jump(4), jump(0), jump(1), yield), 0, 1, 4)
	goes(t, program(dup, yield, zero(0), jump(1)), 0, 1)
	goes(t, program(dup, yield, dup, yield), 0, 1)
}

// P11.3: loops of one, of two, and of many; and such that are not come to, which are none.
func TestLoops(t *testing.T) {
	loops(t, program(jump(0)), 0)
	loops(t, program(zero(0), yield), 0, 1)
	loops(t, program(dup, jump(1)), 0, 1)
	loops(t, program(dup, zero(1), yield), 0, 1, 2)
	loops(t, program(zero(1), jump(0)), 0, 1)
	loops(t, program(dup, dup, jump(1), yield), 0, 1, 2)
	loops(t, program(jump(2), jump(0), jump(1)), 0, 1, 2)
	loops(t, program(jump(3), yield, yield, zero(4), jump(3)), 0, 3, 4)
	for _, count := range []int{3, 300, maxCode} {
		all := sample.Numbers(count)
		loops(t, sample.With(dups(count), count-1, jump(0)), all...)
		loops(t, sample.With(dups(count), count-1, jump(uint32(count-1))), all...)
		loops(t, sample.With(dups(count), count-2, zero(0)), all...)
		loops(t, sample.With(dups(count), 0, zero(0)), all...)
	}
	goes(t, program(yield, jump(1)), 0)
	goes(t, program(yield, zero(1), yield), 0)
	goes(t, program(jump(3), dup, jump(1), yield), 0, 3)
	goes(t, program(jump(3), zero(2), jump(1), yield), 0, 3)
	goes(t, program(dup, yield, zero(0), jump(2)), 0, 1)
}

// P11.3: a loop that is come to only by one of the ways of an OpZero.
func TestLoopOneWay(t *testing.T) {
	loops(t, program(zero(2), yield, jump(2)), 0, 1, 2)
	loops(t, program(zero(2), jump(1), yield), 0, 1, 2)
	loops(t, program(zero(3), dup, yield, dup, jump(3)), 0, 1, 2, 3, 4)
	loops(t, program(zero(4), dup, dup, jump(1), yield), 0, 1, 2, 3, 4)
	loops(t, program(dup, zero(0), yield), 0, 1, 2)
	loops(t, program(zero(2), yield, zero(4), yield, jump(2)), 0, 1, 2, 3, 4)
}

// P11.3: ways that part and meet again; of several that may be next the least one is first, also one that has just become so.
func TestOrders(t *testing.T) {
	goes(t, program(zero(2), dup, yield), 0, 1, 2)
	goes(t, program(zero(1), yield), 0, 1)
	goes(t, program(zero(3), dup, jump(4), dup, yield), 0, 1, 2, 3, 4)
	goes(t, program(zero(3), jump(4), yield, jump(2), jump(2)), 0, 1, 3, 4, 2)
	goes(t, program(jump(2), yield, jump(1)), 0, 2, 1)
	goes(t, program(jump(3), yield, jump(1), jump(2)), 0, 3, 2, 1)
	goes(t, program(zero(4), jump(6), yield, yield, jump(2), dup, jump(3)), 0, 1, 4, 2, 6, 3)
	goes(t, program(zero(3), jump(5), yield, zero(2), jump(2), jump(2)), 0, 1, 3, 4, 5, 2)
	goes(t, program(zero(4), zero(6), yield, yield, zero(3), jump(2), jump(2)), 0, 1, 4, 3, 5, 6, 2)
	goes(t, program(zero(2), zero(2), zero(4), zero(5), jump(5), yield), 0, 1, 2, 3, 4, 5)
	goes(t, program(jump(4), yield, jump(1), jump(2), zero(3), jump(1)), 0, 4, 3, 2, 5, 1)
}

// soon fails the test unless Come and Order of a program that is well tell that soon; a nil order stands for a loop.
func soon(t *testing.T, name string, l []api.Instr, come []bool, order []int) {
	t.Helper()
	checks(t, l, 0, api.OK)
	begin := time.Now()
	comes(t, l, come...)
	orders(t, l, order, order != nil)
	// Some milliseconds are enough; ways that are gone one by one would not end at all.
	if took := time.Since(begin); took > 5*time.Second {
		t.Errorf("%s: Come and Order take %v", name, took)
	}
}

// P11.3: the most instructions in a row, with as many OpZero as there can be, however they go.
func TestMost(t *testing.T) {
	const last, half = maxCode - 1, maxCode / 2
	all, rising := slices.Repeat([]bool{true}, maxCode), sample.Numbers(maxCode)
	row := sample.From(4)
	ends := func(at func(n int) uint32) []api.Instr {
		return sample.With(sample.Fill(maxCode, func(n int) api.Instr { return zero(min(at(n), last)) }), last, yield)
	}
	soon(t, "a row", dups(maxCode), all, rising)
	soon(t, "all to the next", ends(func(n int) uint32 { return uint32(n + 1) }), all, rising)
	soon(t, "all to the next but one", ends(func(n int) uint32 { return uint32(n + 2) }), all, rising)
	soon(t, "all to the last", ends(func(int) uint32 { return last }), all, rising)
	soon(t, "whatever is behind", ends(func(n int) uint32 { return uint32(n + 1 + row.Below(maxCode-n)) }), all, rising)
	soon(t, "the far half, rising", ends(func(n int) uint32 { return uint32(max(n+1, half+n)) }), all, rising)
	soon(t, "the far half, falling", ends(func(n int) uint32 { return uint32(max(n+1, last-n)) }), all, rising)
	soon(t, "all to themselves", ends(func(n int) uint32 { return uint32(n) }), all, nil)
	soon(t, "all to the first", ends(func(int) uint32 { return 0 }), all, nil)
	soon(t, "whatever there is", ends(func(int) uint32 { return uint32(row.Below(maxCode)) }), all, nil)
	soon(t, "a ring at the end", sample.With(ends(func(n int) uint32 { return uint32(n + 2) }), last, jump(last)), all, nil)
	soon(t, "a ring of all", sample.With(ends(func(n int) uint32 { return uint32(n + 2) }), last, jump(0)), all, nil)
	backward := sample.With(sample.With(sample.Fill(maxCode, func(n int) api.Instr { return jump(uint32(max(n-1, 0))) }), 0, jump(last)), 1, yield)
	falling := append([]int{0}, rising[1:]...)
	slices.Reverse(falling[1:])
	soon(t, "one by one from the end", backward, all, falling)
	only := make([]bool, maxCode)
	only[0] = true
	soon(t, "the first alone", sample.With(ends(func(n int) uint32 { return uint32(n) }), 0, yield), only, []int{0})
}

// P11.3: the order of the most instructions, where few of those that may be next stand in the order of their numbers.
func TestMostOutOfOrder(t *testing.T) {
	// The near half goes to the far half, which goes back one by one to the yields between.
	const half = maxCode / 2
	l := sample.Fill(maxCode, func(n int) api.Instr {
		switch {
		case n%2 == 0 && n < half:
			return zero(uint32(maxCode - 1 - n))
		case n < half:
			return dup
		case n%2 == 1 && n > half+2:
			return jump(uint32(n - 3))
		}
		return yield
	})
	checks(t, l, 0, api.OK)
	come := flow.Come(l)
	order, ok := flow.Order(l)
	if !ok {
		t.Fatal("there is no order")
	}
	inOrder(t, l, come, order)
}

// inOrder fails the test unless the order has those that are come to, once each, each behind all behind which it comes, and the least one first of several that may be next.
func inOrder(t *testing.T, l []api.Instr, come []bool, order []int) {
	t.Helper()
	ahead := make([]int, len(l))
	for n, is := range come {
		for _, next := range sample.Behind(l, n) {
			if is {
				ahead[next]++
			}
		}
	}
	open := slices.Clone(come)
	may := func(n int) bool { return open[n] && ahead[n] == 0 }
	for at, n := range order {
		least := 0
		for least < len(l)-1 && !may(least) {
			least++
		}
		if n != least {
			t.Fatalf("Order(%s) has %d at place %d, not %d", sample.Short(l), n, at, least)
		}
		open[n] = false
		for _, next := range sample.Behind(l, n) {
			ahead[next]--
		}
	}
	if slices.Contains(open, true) {
		t.Fatalf("Order(%s) has %d of those that are come to, and not %d", sample.Short(l), len(order), slices.Index(open, true))
	}
}

// byTheWords fails the test unless all calls tell of this program what the words say.
func byTheWords(t *testing.T, l []api.Instr) {
	t.Helper()
	n, err := checkOf(l)
	checks(t, l, n, err)
	for n := -1; n <= len(l); n++ {
		behinds(t, l, n, behindOf(l, n)...)
	}
	comes(t, l, comeOf(l)...)
	order, ok := orderOf(l)
	orders(t, l, order, ok)
}

// P11.1, P11.2, P11.3: all programs of at most four instructions, of those that go on alike one alone, with jumps to none and with none.
func TestSmallByTheWords(t *testing.T) {
	for count := range 5 {
		kinds := program(dup, yield, none)
		for c := range uint32(count + 1) {
			kinds = append(kinds, jump(c), zero(c))
		}
		for l := range sample.All(count, kinds) {
			byTheWords(t, l)
		}
	}
}

// P11.1, P11.2, P11.3: random programs, well and with something amiss.
func TestByTheWords(t *testing.T) {
	row := sample.From(5)
	errs := map[api.Errno]int{}
	loops, ends, some := 0, 0, 0
	for range 3000 {
		count := 1 + row.Below(30)
		l := row.Amiss(count)
		byTheWords(t, l)
		_, err := flow.Check(l)
		errs[err]++
		l = row.Program(count, row.Below(5))
		if n, err := flow.Check(l); err != api.OK {
			t.Fatalf("Check(%s) tells %d, %d", sample.Short(l), n, err)
		}
		byTheWords(t, l)
		if _, ok := flow.Order(l); ok {
			ends++
		} else {
			loops++
		}
		if slices.Contains(flow.Come(l), false) {
			some++
		}
	}
	for _, err := range []api.Errno{api.OK, api.ErrOp, api.ErrJump, api.ErrEnd} {
		if errs[err] < 200 {
			t.Errorf("of 3000 programs %d tell error %d", errs[err], err)
		}
	}
	if loops < 500 || ends < 500 || some < 500 {
		t.Errorf("of 3000 programs %d have a loop, %d have none, %d have what is not come to", loops, ends, some)
	}
}

// wayOf answers a way from instruction 0, of so many at most, and whether it has ended.
func wayOf(row *sample.Row, l []api.Instr, most int) ([]int, bool) {
	way := []int{0}
	for len(way) < most {
		behind := slices.Collect(flow.Behind(l, way[len(way)-1]))
		if len(behind) == 0 {
			return way, true
		}
		way = append(way, behind[row.Below(len(behind))])
	}
	return way, len(sample.Behind(l, way[len(way)-1])) == 0
}

// wayTo answers a way from instruction 0 to n; none, if there is none.
func wayTo(l []api.Instr, n int) []int {
	from := map[int]int{0: 0}
	for open := []int{0}; len(open) > 0; open = open[1:] {
		for next := range flow.Behind(l, open[0]) {
			if _, is := from[next]; !is {
				from[next] = open[0]
				open = append(open, next)
			}
		}
	}
	if _, is := from[n]; !is {
		return nil
	}
	way := []int{n}
	for way[0] != 0 {
		way = append([]int{from[way[0]]}, way...)
	}
	return way
}

// P11.4: whatever way is gone, each instruction of it is come to; each that is come to lies on some way, and no other one does.
func TestWays(t *testing.T) {
	row := sample.From(6)
	for range 2000 {
		l := row.Program(1+row.Below(30), row.Below(9))
		come := flow.Come(l)
		for range 10 {
			way, _ := wayOf(row, l, 100)
			for _, n := range way {
				if !come[n] {
					t.Fatalf("%s: the way %v goes over %d, that is not come to", sample.Short(l), way, n)
				}
			}
		}
		for n, is := range come {
			way := wayTo(l, n)
			if (way != nil) != is {
				t.Fatalf("%s: Come tells %v of %d; the way there is %v", sample.Short(l), is, n, way)
			}
			for k := 1; k < len(way); k++ {
				if !slices.Contains(sample.Behind(l, way[k-1]), way[k]) {
					t.Fatalf("%s: on the way %v one comes behind one that it does not", sample.Short(l), way)
				}
			}
		}
	}
}

// P11.4: without a loop each way ends, has at most as many instructions as Order, and in the same order; with one there is a way that goes round.
func TestWaysEnd(t *testing.T) {
	row := sample.From(7)
	for range 2000 {
		l := row.Program(1+row.Below(40), row.Below(3))
		order, ok := flow.Order(l)
		if !ok {
			if _, is := sample.Loop(l); !is {
				t.Fatalf("%s: Order tells none, and there is no loop", sample.Short(l))
			}
			continue
		}
		inOrder(t, l, flow.Come(l), order)
		for range 20 {
			way, ended := wayOf(row, l, len(order))
			if !ended {
				t.Fatalf("%s: the way %v goes on behind as many as the order %v has", sample.Short(l), way, order)
			}
			at := -1
			for _, n := range way {
				place := slices.Index(order, n)
				if place <= at {
					t.Fatalf("%s: the way %v is not in the order %v", sample.Short(l), way, order)
				}
				at = place
			}
		}
	}
}

// R3: what is handed in stays as it is; what becomes of it, and of an answer, later makes no difference to other answers.
func TestApart(t *testing.T) {
	row := sample.From(8)
	for range 500 {
		l := row.Program(1+row.Below(20), row.Below(3))
		if row.Below(3) == 0 {
			l = row.Amiss(1 + row.Below(20))
		}
		was := slices.Clone(l)
		n := row.Below(len(l))
		seq, come := flow.Behind(l, n), flow.Come(l)
		order, ok := flow.Order(l)
		flow.Check(l)
		for range seq {
			break
		}
		if !slices.Equal(l, was) {
			t.Fatalf("%s has become %s", sample.Short(was), sample.Short(l))
		}
		comeWas, orderWas := slices.Clone(come), slices.Clone(order)
		for k := range l {
			l[k] = none
		}
		if got := slices.Collect(seq); !slices.Equal(got, behindOf(was, n)) || !slices.Equal(come, comeWas) || !slices.Equal(order, orderWas) {
			t.Fatalf("what is told of %s becomes something else with it", sample.Short(was))
		}
		copy(l, was)
		for k := range come {
			come[k] = !come[k]
		}
		for k := range order {
			order[k] = -1
		}
		if got := slices.Collect(seq); !slices.Equal(got, behindOf(l, n)) {
			t.Fatalf("Behind(%s, %d) goes over %v when it is gone over again", sample.Short(l), n, got)
		}
		comes(t, l, comeWas...)
		orders(t, l, orderWas, ok)
	}
}

// R5: programs that are asked by turns are told as each alone.
func TestByTurns(t *testing.T) {
	a, b := program(zero(2), yield, yield), program(zero(1), jump(0))
	behindA, behindB := flow.Behind(a, 0), flow.Behind(b, 0)
	for range 3 {
		goes(t, a, 0, 1, 2)
		loops(t, b, 0, 1)
		checks(t, program(dup), 0, api.ErrEnd)
		if gotA, gotB := slices.Collect(behindA), slices.Collect(behindB); !slices.Equal(gotA, []int{1, 2}) || !slices.Equal(gotB, []int{1}) {
			t.Errorf("Behind goes over %v and %v", gotA, gotB)
		}
	}
}
