package sample_test

import (
	"math"
	"slices"
	"testing"

	"tappet/api"
	"tappet/flow"
	"tappet/isa"
	"tappet/sample"
)

func TestCode(t *testing.T) {
	want := []api.Instr{{Op: api.OpZero, C: 2}, {Op: api.OpJump, C: 9}, {Op: api.OpPut, A: 1, B: 2}, {Op: api.OpYield}}
	for _, text := range []string{"zero 2, jump 9, put 1 2, yield", "zero a, jump 9, a: put 1 2, yield"} {
		if got := sample.Code(text); !slices.Equal(got, want) {
			t.Errorf("Code(%q) answers %v", text, got)
		}
	}
	if got := sample.Code(""); len(got) != 0 {
		t.Errorf("Code of nothing answers %v", got)
	}
	for text, want := range map[string]string{
		"zero":               `line 1 of "zero": 100`,
		"dup,yield":          `line 1 of "dup,yield": 100`,
		"dup, push 01, drop": `line 2 of "dup, push 01, drop": 42`,
		"jump a":             `instruction 0 of "jump a": 101`,
		"dup, zero b, yield": `instruction 1 of "dup, zero b, yield": 101`,
	} {
		func() {
			defer func() {
				if got := recover(); got != want {
					t.Errorf("Code(%q) tells %v, want %s", text, got, want)
				}
			}()
			sample.Code(text)
		}()
	}
}

func TestFill(t *testing.T) {
	l := sample.Fill(3, func(n int) api.Instr { return api.Instr{Op: api.OpPush, C: uint32(n)} })
	if !slices.Equal(l, sample.Code("push 0, push 1, push 2")) {
		t.Errorf("Fill answers %v", l)
	}
	with := sample.With(l, 1, api.Instr{Op: api.OpDup})
	if !slices.Equal(with, sample.Code("push 0, dup, push 2")) || l[1].Op != api.OpPush {
		t.Errorf("With answers %v, and leaves %v", with, l)
	}
}

func TestAll(t *testing.T) {
	for count, want := range []int{1, 3, 9, 27} {
		seen := map[string]bool{}
		for l := range sample.All(count, sample.Code("dup, drop, yield")) {
			if len(l) != count {
				t.Fatalf("All(%d) goes over %v", count, l)
			}
			seen[sample.Short(l)] = true
		}
		if len(seen) != want {
			t.Errorf("All(%d) goes over %d", count, len(seen))
		}
	}
	turns := 0
	for range sample.All(3, sample.Code("dup, drop")) {
		if turns++; turns == 3 {
			break
		}
	}
	for range sample.All(2, nil) {
		t.Error("of none there are some")
	}
}

func TestShort(t *testing.T) {
	if got := sample.Short([]int{1, 2}); got != "[1 2]" {
		t.Errorf("Short answers %s", got)
	}
	if got := sample.Short([]int{-1, math.MinInt, math.MaxInt}); got != "[-1 -9223372036854775808 9223372036854775807]" {
		t.Errorf("Short answers %s", got)
	}
	if got := sample.Short([]uint32{0, 258, math.MaxUint32}); got != "[0 258 4294967295]" {
		t.Errorf("Short answers %s", got)
	}
	if got := sample.Short([]bool{true, false}) + sample.Short([]bool{}) + sample.Short[int](nil); got != "[true false][][]" {
		t.Errorf("Short answers %s", got)
	}
	if got := sample.Short([]api.Instr{{}, {Op: 1, A: 2, B: 3, C: 4}, {Op: 255, A: 254, B: 65535, C: math.MaxUint32}}); got != "[{0 0 0 0} {1 2 3 4} {255 254 65535 4294967295}]" {
		t.Errorf("Short answers %s", got)
	}
	if got := sample.Short(make([]bool, 25)); got != "25 "+sample.Short(make([]bool, 12))+".."+sample.Short(make([]bool, 12)) {
		t.Errorf("Short answers %s", got)
	}
	if got := sample.Short(sample.Numbers(24)); got != "[0 1 2 3 4 5 6 7 8 9 10 11 12 13 14 15 16 17 18 19 20 21 22 23]" {
		t.Errorf("Short answers %s", got)
	}
	if got := sample.Short(sample.Numbers(1000)); got != "1000 [0 1 2 3 4 5 6 7 8 9 10 11]..[988 989 990 991 992 993 994 995 996 997 998 999]" {
		t.Errorf("Short answers %s", got)
	}
}

func TestBehind(t *testing.T) {
	l := sample.Code("zero 3, zero 2, jump 0, dup, yield")
	for n, want := range [][]int{{1, 3}, {2}, {0}, {4}, nil} {
		if got := sample.Behind(l, n); !slices.Equal(got, want) {
			t.Errorf("Behind(%d) answers %v, want %v", n, got, want)
		}
	}
}

func TestReach(t *testing.T) {
	links := sample.Links(sample.Code("zero 3, jump 4, yield, jump 1, jump 4"))
	for n, want := range [][]int{{1, 3}, {4}, nil, {1}, {4}} {
		if !slices.Equal(links[n], want) {
			t.Errorf("Links has %v at %d, want %v", links[n], n, want)
		}
	}
	for n, want := range [][]bool{{true, true, false, true, true}, {false, true, false, false, true}, {false, false, true, false, false}, {false, true, false, true, true}, {false, false, false, false, true}} {
		if got := sample.Reach(links, []int{n}); !slices.Equal(got, want) {
			t.Errorf("Reach from %d answers %v", n, got)
		}
	}
	if got := sample.Reach(links, []int{2, 4}); !slices.Equal(got, []bool{false, false, true, false, true}) {
		t.Errorf("Reach from 2 and 4 answers %v", got)
	}
	if got := sample.Reach(links, nil); slices.Contains(got, true) {
		t.Errorf("Reach from none answers %v", got)
	}
}

func TestLoop(t *testing.T) {
	for text, want := range map[string]int{"yield": -1, "jump 0": 0, "dup, zero 1, yield": 1, "zero 2, jump 3, jump 4, jump 3, jump 2": 2, "yield, jump 1": -1, "jump 2, jump 3, jump 1, yield": -1, "jump 3, jump 2, jump 1, jump 2": 1} {
		n, ok := sample.Loop(sample.Code(text))
		if ok != (want >= 0) || n != max(want, 0) {
			t.Errorf("Loop of %s answers %d, %v; want %d", text, n, ok, want)
		}
	}
}

func TestRowWithin(t *testing.T) {
	row, far := sample.From(10), 0
	for count := range 40 {
		for range 100 {
			i := row.Within(count + 1)
			if !isa.May(i) || isa.Jumps(i.Op) && int(i.C) > count {
				t.Fatalf("Within(%d) answers %v", count+1, i)
			}
			if isa.Jumps(i.Op) && int(i.C) == count {
				far++
			}
		}
	}
	if far < 100 {
		t.Errorf("%d go to the greatest number", far)
	}
}

func TestRowProgram(t *testing.T) {
	row := sample.From(8)
	back, jumps, ops := 0, 0, map[uint8]bool{}
	for range 3000 {
		count := 1 + row.Below(30)
		l := row.Program(count, row.Below(9))
		if n, err := flow.Check(l); len(l) != count || err != api.OK {
			t.Fatalf("%s has %d at %d", sample.Short(l), err, n)
		}
		for n, i := range l {
			ops[i.Op] = true
			if isa.Jumps(i.Op) {
				jumps++
				if int(i.C) <= n {
					back++
				}
			}
		}
		for n, i := range row.Program(count, 0)[:count-1] {
			if isa.Jumps(i.Op) && int(i.C) <= n {
				t.Fatalf("jump %d at %d goes back", i.C, n)
			}
		}
	}
	if back < jumps/10 || back > jumps/2 || len(ops) != 27 {
		t.Errorf("%d of %d jumps go back; there are %d Ops", back, jumps, len(ops))
	}
}

func TestRowAmiss(t *testing.T) {
	row := sample.From(9)
	errs := map[api.Errno]int{}
	for range 3000 {
		count := 1 + row.Below(30)
		l := row.Amiss(count)
		_, err := flow.Check(l)
		errs[err]++
		if len(l) != count {
			t.Fatalf("Amiss(%d) answers %s", count, sample.Short(l))
		}
	}
	for _, err := range []api.Errno{api.OK, api.ErrOp, api.ErrJump, api.ErrEnd} {
		if errs[err] < 200 {
			t.Errorf("of 3000 programs %d tell error %d", errs[err], err)
		}
	}
}
