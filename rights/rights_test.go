package rights_test

import (
	"math"
	"slices"
	"testing"

	"tappet/api"
	"tappet/rights"
	"tappet/sample"
)

const (
	r = api.RightR
	w = api.RightW
	x = api.RightX

	top = math.MaxUint32 // the greatest number of the machine
)

// region is a short form.
func region(base, size uint32, rights uint8) api.Region {
	return api.Region{Base: base, Size: size, Rights: rights}
}

// has tells whether a byte is in a region: the chapter's words, in numbers that do not wrap round here.
func has(a api.Region, at uint64) bool {
	return at >= uint64(a.Base) && at-uint64(a.Base) < uint64(a.Size)
}

// fitsByTheWords looks at each byte and each right of a small region.
func fitsByTheWords(a api.Region, memory uint32) bool {
	if a.Size == 0 || a.Rights == 0 || a.Rights > r+w+x {
		return false
	}
	for at := range uint64(a.Size) {
		if uint64(a.Base)+at >= uint64(memory) {
			return false
		}
	}
	return true
}

// overlapByTheWords looks for a byte of a small region a in b.
func overlapByTheWords(a, b api.Region) bool {
	for at := range uint64(a.Size) {
		if has(b, uint64(a.Base)+at) {
			return true
		}
	}
	return false
}

// findByTheWords looks at each byte that is asked for, and each right, region by region.
func findByTheWords(l []api.Region, at, size uint32, right uint8) (int, bool) {
	for n, a := range l {
		all := size > 0
		for k := range uint64(size) {
			all = all && has(a, uint64(at)+k)
		}
		for _, one := range []uint8{r, w, x} {
			all = all && (right&one == 0 || a.Rights&one != 0)
		}
		if all {
			return n, true
		}
	}
	return 0, false
}

// checkByTheWords asks one thing behind the other, the first one first; the memory has at most MaxMem bytes.
func checkByTheWords(l []api.Region, memory uint32) api.Errno {
	if len(l) > 8 {
		return api.ErrLong
	}
	for _, a := range l {
		if a.Size > memory || !fitsByTheWords(a, memory) {
			return api.ErrArg
		}
	}
	for n, a := range l {
		if slices.ContainsFunc(l[:n], func(b api.Region) bool { return overlapByTheWords(a, b) }) {
			return api.ErrMap
		}
	}
	return api.OK
}

// stretch is what Free tells: where it begins, and how many bytes it has.
type stretch struct{ at, size uint32 }

// freeByTheWords looks at each byte of the memory.
func freeByTheWords(l []api.Region, memory uint32) []stretch {
	var out []stretch
	open := false
	for at := range memory {
		free := !slices.ContainsFunc(l, func(a api.Region) bool { return has(a, uint64(at)) })
		if free && !open {
			out = append(out, stretch{at, 0})
		}
		if free {
			out[len(out)-1].size++
		}
		open = free
	}
	return out
}

// free gathers what Free tells.
func free(l []api.Region, memory uint32) []stretch {
	var out []stretch
	for at, size := range rights.Free(l, memory) {
		out = append(out, stretch{at, size})
	}
	return out
}

// small are regions of few bytes: all of them about 0, and likewise about 2^32, where some pass it.
func small() []api.Region {
	var out []api.Region
	for base := range uint32(6) {
		for size := range uint32(5) {
			out = append(out, region(base, size, r), region(top-5+base, size, r))
		}
	}
	return out
}

// someOf answers at most that many regions about a memory of 40 bytes, of all rights, with such among them that do not fit it.
func someOf(row *sample.Row, most int) []api.Region {
	l := make([]api.Region, row.Below(most+1))
	for n := range l {
		l[n] = region(uint32(row.Below(44)), uint32(row.Below(9)), uint8(row.Below(9)))
		switch row.Below(12) {
		case 0:
			l[n].Size = top - uint32(row.Below(3))
		case 1:
			l[n].Base = top - uint32(row.Below(3))
		}
	}
	return l
}

// mayBe answers a list that Check lets be in a memory of 40 bytes.
func mayBe(row *sample.Row) []api.Region {
	for {
		l := make([]api.Region, row.Below(5))
		for n := range l {
			l[n] = region(uint32(row.Below(40)), uint32(1+row.Below(10)), uint8(1+row.Below(7)))
		}
		if rights.Check(l, 40) == api.OK {
			return l
		}
	}
}

// P5.1: the chapter's examples, and the edges of bytes, of the memory and of rights.
func TestFits(t *testing.T) {
	rows := []struct {
		a      api.Region
		memory uint32
		want   bool
	}{
		{region(0, 16, r), 16, true},
		{region(1, 16, r), 16, false},
		{region(top, 2, r), 100, false},

		{region(0, 0, r), 16, false},
		{region(16, 0, r), 16, false},
		{region(0, 0, r), 0, false},
		{region(5, 0, r+w+x), top, false},

		{region(0, 1, r), 1, true},
		{region(0, 1, r), 0, false},
		{region(15, 1, r), 16, true},
		{region(16, 1, r), 16, false},
		{region(15, 2, r), 16, false},
		{region(8, 8, r), 16, true},
		{region(8, 9, r), 16, false},
		{region(0, 262144, r), 262144, true},
		{region(0, 262145, r), 262144, false},
		{region(0, 262145, r), 262145, true},
		{region(262143, 1, r), 262144, true},
		{region(262144, 1, r), 262144, false},

		{region(top, 1, r), top, false},
		{region(top-1, 1, r), top, true},
		{region(0, top, r), top, true},
		{region(1, top, r), top, false},
		{region(1, top, r), 100, false},
		{region(2, top, r), 100, false},
		{region(top, 1, r), 100, false},
		{region(top, top, r), 100, false},
		{region(top, top, r), top, false},
		{region(1<<31, 1<<31, r), 100, false},
		{region(1<<31, 1<<31, r), top, false},
		{region(1<<31, 1<<31-1, r), top, true},

		{region(0, 16, 0), 16, false},
		{region(0, 16, 1), 16, true},
		{region(0, 16, 2), 16, true},
		{region(0, 16, 3), 16, true},
		{region(0, 16, 4), 16, true},
		{region(0, 16, 5), 16, true},
		{region(0, 16, 6), 16, true},
		{region(0, 16, 7), 16, true},
		{region(0, 16, 8), 16, false},
		{region(0, 16, 9), 16, false},
		{region(0, 16, 128), 16, false},
		{region(0, 16, 255), 16, false},
	}
	for _, row := range rows {
		if got := rights.Fits(row.a, row.memory); got != row.want {
			t.Errorf("Fits(%v, %d) = %v, want %v", row.a, row.memory, got, row.want)
		}
	}
}

// P5.1: small regions of all rights in small memories, as the words say it byte by byte.
func TestFitsByTheWords(t *testing.T) {
	for _, a := range small() {
		for _, memory := range []uint32{0, 1, 2, 3, 4, 5, 6, 7, 8, 9, 10, 262144, top - 3, top - 2, top - 1, top} {
			for rest := range 256 {
				a.Rights = uint8(rest)
				if got, want := rights.Fits(a, memory), fitsByTheWords(a, memory); got != want {
					t.Fatalf("Fits(%v, %d) = %v, want %v", a, memory, got, want)
				}
			}
		}
	}
}

// P5.1: two that touch, have bytes in common, are the same, have no bytes, and pass 2^32; whichever comes first, and whatever their rights.
func TestOverlap(t *testing.T) {
	rows := []struct {
		name string
		a, b api.Region
		want bool
	}{
		{"far from each other", region(0, 4, r), region(8, 4, r), false},
		{"one byte between", region(0, 4, r), region(5, 4, r), false},
		{"touching", region(0, 4, r), region(4, 4, r), false},
		{"one byte in common", region(0, 5, r), region(4, 4, r), true},
		{"one byte each, the same", region(4, 1, r), region(4, 1, w), true},
		{"one byte each, side by side", region(4, 1, r), region(5, 1, r), false},
		{"one within the other", region(0, 16, r), region(4, 4, r), true},
		{"one byte within", region(0, 16, r), region(7, 1, r), true},
		{"one at the other's beginning", region(0, 16, r), region(0, 1, r), true},
		{"one at the other's end", region(0, 16, r), region(15, 1, r), true},
		{"one just behind the other's end", region(0, 16, r), region(16, 1, r), false},
		{"the same", region(8, 8, r), region(8, 8, r), true},
		{"the same bytes, unlike rights", region(8, 8, r), region(8, 8, x), true},
		{"the same bytes, no rights", region(8, 8, 0), region(8, 8, 0), true},
		{"no bytes, amid the other", region(0, 16, r), region(8, 0, r), false},
		{"no bytes, at the other's beginning", region(4, 4, r), region(4, 0, r), false},
		{"no bytes, behind the other's end", region(4, 4, r), region(8, 0, r), false},
		{"no bytes, the same", region(8, 0, r), region(8, 0, r), false},
		{"no bytes, at 0", region(0, 0, 0), region(0, 0, 0), false},
		{"no bytes, at the last number", region(top, 0, r), region(top, 1, r), false},
		{"the last number alone", region(top, 1, r), region(top, 1, r), true},
		{"touching at the last number", region(top-1, 1, r), region(top, 1, r), false},
		{"one byte in common, at the last number", region(top-1, 2, r), region(top, 1, r), true},
		{"in common behind the last number alone", region(top-1, 3, r), region(top, 2, r), true},
		{"one passes 2^32, the other is at 0", region(top, 2, r), region(0, 4, r), false},
		{"one passes 2^32 by far, the other is at 0", region(2, top, r), region(0, 2, r), false},
		{"one passes 2^32 by far, one byte in common", region(2, top, r), region(0, 3, r), true},
		{"both pass 2^32", region(top, top, r), region(top-8, top, r), true},
		{"one ends at 2^32, the other is at 0", region(1<<31, 1<<31, r), region(0, 1<<31, r), false},
		{"halves with a byte in common", region(1<<31, 1<<31, r), region(0, 1<<31+1, r), true},
		{"almost all, and the last number", region(0, top, r), region(top, 1, r), false},
		{"almost all twice", region(0, top, r), region(1, top, r), true},
	}
	for _, row := range rows {
		if got := rights.Overlap(row.a, row.b); got != row.want {
			t.Errorf("%s: Overlap(%v, %v) = %v", row.name, row.a, row.b, got)
		}
		if got := rights.Overlap(row.b, row.a); got != row.want {
			t.Errorf("%s, the other way round: Overlap(%v, %v) = %v", row.name, row.b, row.a, got)
		}
	}
}

// P5.1: all two small regions, as the words say it byte by byte.
func TestOverlapByTheWords(t *testing.T) {
	for _, a := range small() {
		for _, b := range small() {
			if got, want := rights.Overlap(a, b), overlapByTheWords(a, b); got != want {
				t.Fatalf("Overlap(%v, %v) = %v, want %v", a, b, got, want)
			}
		}
	}
}

// chain answers that many regions of 8 bytes, each touching the next one.
func chain(count int) []api.Region {
	var l []api.Region
	for n := range count {
		l = append(l, region(uint32(8*n), 8, uint8(1+n%7)))
	}
	return l
}

// with answers a list with some of its places taken otherwise.
func with(l []api.Region, a api.Region, places ...int) []api.Region {
	l = slices.Clone(l)
	for _, n := range places {
		l[n] = a
	}
	return l
}

// P5.2: each error, at its edge, and which comes first where more than one holds.
func TestCheck(t *testing.T) {
	unfit := region(60, 8, r)
	rows := []struct {
		name   string
		l      []api.Region
		memory uint32
		want   api.Errno
	}{
		{"nil", nil, 64, api.OK},
		{"none", []api.Region{}, 64, api.OK},
		{"none, no memory", nil, 0, api.OK},
		{"none, the most memory", nil, 262144, api.OK},
		{"none, too much memory", nil, 262145, api.ErrArg},
		{"none, far too much memory", nil, top, api.ErrArg},
		{"one, all of the memory", []api.Region{region(0, 64, r)}, 64, api.OK},
		{"one, all of the most memory", []api.Region{region(0, 262144, r)}, 262144, api.OK},
		{"one, too much memory", []api.Region{region(0, 8, r)}, 262145, api.ErrArg},
		{"one, all of too much memory", []api.Region{region(0, 262145, r)}, 262145, api.ErrArg},
		{"8 that touch", chain(8), 64, api.OK},
		{"8 that touch, the most memory", chain(8), 262144, api.OK},
		{"8 that touch, too much memory", chain(8), 262145, api.ErrArg},
		{"8, falling", []api.Region{region(56, 8, r), region(48, 8, r), region(40, 8, r), region(32, 8, r), region(24, 8, r), region(16, 8, r), region(8, 8, r), region(0, 8, r)}, 64, api.OK},
		{"9 that touch", chain(9), 72, api.ErrLong},
		{"9 that touch, too much memory", chain(9), 262145, api.ErrLong},
		{"9, one that does not fit", with(chain(9), unfit, 8), 64, api.ErrLong},
		{"9 that are the same", slices.Repeat(chain(1), 9), 64, api.ErrLong},
		{"9 that are nothing", make([]api.Region, 9), 64, api.ErrLong},
		{"1000", make([]api.Region, 1000), top, api.ErrLong},
		{"8, a byte of memory is missing", chain(8), 63, api.ErrArg},
		{"8, no memory", chain(8), 0, api.ErrArg},
		{"one of no bytes", []api.Region{region(0, 8, r), region(8, 0, r)}, 64, api.ErrArg},
		{"one of no rights", []api.Region{region(0, 8, r), region(8, 8, 0)}, 64, api.ErrArg},
		{"one of rights that there are not", []api.Region{region(0, 8, 8), region(8, 8, r)}, 64, api.ErrArg},
		{"one that passes 2^32", []api.Region{region(0, 8, r), region(top, 10, r)}, 64, api.ErrArg},
		{"one that does not fit, and two that overlap", []api.Region{region(0, 8, r), region(0, 8, r), unfit}, 64, api.ErrArg},
		{"one that does not fit overlaps another one", []api.Region{region(56, 8, r), unfit}, 64, api.ErrArg},
		{"two that overlap, too much memory", []api.Region{region(0, 8, r), region(7, 8, r)}, 262145, api.ErrArg},
		{"two that touch", []api.Region{region(0, 8, r), region(8, 8, w)}, 64, api.OK},
		{"two with a byte in common", []api.Region{region(0, 9, r), region(8, 8, w)}, 64, api.ErrMap},
		{"two with a byte in common, falling", []api.Region{region(8, 8, w), region(0, 9, r)}, 64, api.ErrMap},
		{"two that may be read alone overlap", []api.Region{region(0, 8, r), region(4, 8, r)}, 64, api.ErrMap},
		{"one within another one", []api.Region{region(0, 64, r), region(8, 1, r)}, 64, api.ErrMap},
		{"the same twice", []api.Region{region(0, 8, r), region(0, 8, r)}, 64, api.ErrMap},
		{"the same bytes twice, unlike rights", []api.Region{region(0, 8, r), region(0, 8, w)}, 64, api.ErrMap},
		{"8 that are the same", slices.Repeat(chain(1), 8), 64, api.ErrMap},
	}
	for _, row := range rows {
		if got := rights.Check(row.l, row.memory); got != row.want {
			t.Errorf("%s: Check tells %d, want %d", row.name, got, row.want)
		}
	}
}

// P5.2: wherever the one that does not fit stands, and whichever two overlap, or are the same.
func TestCheckAtEachPlace(t *testing.T) {
	l := chain(8)
	for n := range l {
		if got := rights.Check(with(l, region(57, 8, r), n), 64); got != api.ErrArg {
			t.Errorf("number %d does not fit: Check tells %d", n, got)
		}
		for k := range n {
			if got := rights.Check(with(l, region(uint32(8*n+7), 1, x), k), 64); got != api.ErrMap {
				t.Errorf("number %d has a byte of number %d: Check tells %d", k, n, got)
			}
			if got := rights.Check(with(l, region(uint32(8*k), 1, x), n), 64); got != api.ErrMap {
				t.Errorf("number %d has a byte of number %d: Check tells %d", n, k, got)
			}
			if got := rights.Check(with(l, region(64, 8, r), n, k), 72); got != api.ErrMap {
				t.Errorf("numbers %d and %d are the same: Check tells %d", k, n, got)
			}
		}
	}
}

// P5.2: any lists, as the words say it.
func TestCheckByTheWords(t *testing.T) {
	row := sample.From(1)
	var told [3]int
	for round := range 20000 {
		l := someOf(row, 10)
		if round%2 == 0 {
			l = mayBe(row)
		}
		memory := uint32(30 + row.Below(15))
		want := checkByTheWords(l, memory)
		if got := rights.Check(l, memory); got != want {
			t.Fatalf("Check(%v, %d) = %d, want %d", l, memory, got, want)
		}
		switch want {
		case api.OK:
			told[0]++
		case api.ErrArg:
			told[1]++
		case api.ErrMap:
			told[2]++
		}
	}
	if slices.Min(told[:]) < 20 {
		t.Errorf("of OK, ErrArg and ErrMap there were only %v", told)
	}
}

// P5.3: the chapter's examples; which of two may be written, and where in the lists they stand.
func TestApart(t *testing.T) {
	amid := region(4, 8, r)
	rows := []struct {
		name string
		a, b []api.Region
		want bool
	}{
		{"both nil", nil, nil, true},
		{"both empty", []api.Region{}, []api.Region{}, true},
		{"one empty", []api.Region{region(0, 8, r+w+x)}, nil, true},
		{"overlapping, neither may be written", []api.Region{region(0, 8, r)}, []api.Region{amid}, true},
		{"overlapping, read and executed alone", []api.Region{region(0, 8, r+x)}, []api.Region{region(4, 8, x)}, true},
		{"overlapping, one may be written", []api.Region{region(0, 8, r+w)}, []api.Region{amid}, false},
		{"overlapping, one may be written alone", []api.Region{region(0, 8, w)}, []api.Region{amid}, false},
		{"overlapping, both may be written", []api.Region{region(0, 8, r+w)}, []api.Region{region(4, 8, r+w+x)}, false},
		{"overlapping, no rights at all", []api.Region{region(0, 8, 0)}, []api.Region{region(4, 8, 0)}, true},
		{"overlapping, one may be written, one has no rights", []api.Region{region(0, 8, w)}, []api.Region{region(4, 8, 0)}, false},
		{"the same, may be written", []api.Region{region(0, 8, w)}, []api.Region{region(0, 8, w)}, false},
		{"the same, may be read", []api.Region{region(0, 8, r)}, []api.Region{region(0, 8, r)}, true},
		{"one byte in common, may be written", []api.Region{region(0, 5, w)}, []api.Region{amid}, false},
		{"one byte in common, the last of the other", []api.Region{region(11, 5, w)}, []api.Region{amid}, false},
		{"touching, may be written", []api.Region{region(0, 4, r+w)}, []api.Region{region(4, 8, r+w)}, true},
		{"far from each other, may be written", []api.Region{region(0, 4, r+w)}, []api.Region{region(40, 8, r+w)}, true},
		{"no bytes, amid the other, may be written", []api.Region{region(8, 0, r+w)}, []api.Region{region(4, 8, r+w)}, true},
		{"no bytes, both, may be written", []api.Region{region(8, 0, r+w)}, []api.Region{region(8, 0, r+w)}, true},
		{"no bytes, and behind it one that overlaps", []api.Region{region(8, 0, w), region(8, 1, w)}, []api.Region{amid}, false},
		{"one list's own overlap, may be written", []api.Region{region(0, 8, w), region(4, 8, w)}, []api.Region{region(20, 8, w)}, true},
		{"both lists' own overlap, may be written", []api.Region{region(0, 8, w), region(4, 8, w)}, []api.Region{region(20, 8, w), region(20, 8, w)}, true},
		{"the last of each overlap", []api.Region{region(0, 4, r), region(20, 8, w)}, []api.Region{region(0, 4, r), region(8, 4, r), region(27, 8, r)}, false},
		{"the first of one, the last of the other", []api.Region{region(20, 8, r), region(0, 4, r)}, []api.Region{region(0, 4, r), region(8, 4, r), region(27, 8, w)}, false},
		{"the last of one, the first of the other", []api.Region{region(0, 4, r), region(20, 8, r)}, []api.Region{region(27, 8, w), region(8, 4, r), region(0, 4, r)}, false},
		{"some overlap, others may be written", []api.Region{region(0, 4, r), region(20, 8, w)}, []api.Region{region(0, 4, r+x), region(28, 8, w)}, true},
		{"passing 2^32, the other at 0", []api.Region{region(top, 9, w)}, []api.Region{region(0, 9, w)}, true},
		{"passing 2^32, overlapping", []api.Region{region(top, 9, w)}, []api.Region{region(top-1, 3, r)}, false},
		{"9 and 9, the last ones overlap", append(chain(8), region(100, 8, w)), slices.Repeat([]api.Region{region(107, 8, r)}, 9), false},
	}
	for _, row := range rows {
		if got := rights.Apart(row.a, row.b); got != row.want {
			t.Errorf("%s: Apart(%v, %v) = %v", row.name, row.a, row.b, got)
		}
		if got := rights.Apart(row.b, row.a); got != row.want {
			t.Errorf("%s, the other way round: Apart(%v, %v) = %v", row.name, row.b, row.a, got)
		}
	}
}

// P5.3: all two small regions of all rights, as the words say it.
func TestApartByTheWords(t *testing.T) {
	for _, a := range small() {
		for _, b := range small() {
			meet := overlapByTheWords(a, b)
			for both := range 64 {
				a.Rights, b.Rights = uint8(both%8), uint8(both/8)
				want := !meet || a.Rights&w == 0 && b.Rights&w == 0
				if got := rights.Apart([]api.Region{a}, []api.Region{b}); got != want {
					t.Fatalf("Apart(%v, %v) = %v, want %v", a, b, got, want)
				}
			}
		}
	}
}

// P5.4: the chapter's examples, and the edges of bytes, of rights and of the list.
func TestFind(t *testing.T) {
	two := []api.Region{region(0, 8, r), region(8, 8, r+w)}
	last := []api.Region{region(top-3, 4, r+w+x), region(top-3, 9, r)}
	rows := []struct {
		name     string
		l        []api.Region
		at, size uint32
		right    uint8
		want     int
		ok       bool
	}{
		{"bytes that two have only together", two, 6, 4, r, 0, false},
		{"the second one", two, 8, 8, w, 1, true},

		{"nil", nil, 0, 1, r, 0, false},
		{"none", []api.Region{}, 0, 1, r, 0, false},
		{"size 0", two, 0, 0, r, 0, false},
		{"size 0, amid the second one", two, 9, 0, r, 0, false},
		{"size 0, of a region of size 0", []api.Region{region(0, 0, r+w+x)}, 0, 0, r, 0, false},
		{"size 0, no right", two, 0, 0, 0, 0, false},
		{"one byte, of a region of size 0", []api.Region{region(0, 0, r+w+x)}, 0, 1, r, 0, false},
		{"one byte behind a region of size 0", []api.Region{region(4, 0, r), region(4, 1, r)}, 4, 1, r, 1, true},

		{"all of the first", two, 0, 8, r, 0, true},
		{"its first byte", two, 0, 1, r, 0, true},
		{"its last byte", two, 7, 1, r, 0, true},
		{"its last byte, and one more", two, 7, 2, r, 0, false},
		{"all of it, and one more", two, 0, 9, r, 0, false},
		{"the first byte of the second", two, 8, 1, r, 1, true},
		{"the last byte of the second", two, 15, 1, r, 1, true},
		{"one behind it", two, 16, 1, r, 0, false},
		{"one ahead of a region", []api.Region{region(4, 8, r)}, 3, 1, r, 0, false},
		{"one ahead of a region, and its bytes", []api.Region{region(4, 8, r)}, 3, 9, r, 0, false},
		{"all bytes of two", two, 0, 16, r, 0, false},
		{"all bytes of two, and of a third one", append(slices.Clone(two), region(0, 16, r)), 0, 16, r, 2, true},

		{"all rights", []api.Region{region(0, 8, r+w+x)}, 0, 8, r + w + x, 0, true},
		{"some rights of all", []api.Region{region(0, 8, r+w+x)}, 0, 8, r + x, 0, true},
		{"just the rights", two, 8, 8, r + w, 1, true},
		{"one right too many", two, 8, 8, r + w + x, 0, false},
		{"another right", two, 0, 8, w, 0, false},
		{"one of two rights alone", two, 0, 8, r + w, 0, false},
		{"rights that two have only together", []api.Region{region(0, 8, r), region(0, 8, w)}, 0, 8, r + w, 0, false},
		{"no right", two, 8, 1, 0, 1, true},
		{"no right, of one of no rights", []api.Region{region(0, 8, 0)}, 0, 8, 0, 0, true},
		{"a right, of one of no rights", []api.Region{region(0, 8, 0)}, 0, 8, r, 0, false},

		{"the first of two that have both", []api.Region{region(0, 4, w), region(0, 16, r+w), region(4, 8, r+w)}, 4, 4, w, 1, true},
		{"the first of three that are the same", []api.Region{region(8, 8, r), region(8, 8, r), region(8, 8, r)}, 8, 8, r, 0, true},
		{"the first has the bytes, the second the right", []api.Region{region(0, 8, r), region(0, 8, r+x)}, 0, 8, x, 1, true},
		{"the ninth", append(slices.Repeat([]api.Region{region(0, 8, r)}, 8), region(8, 8, r)), 8, 8, r, 8, true},

		{"the last number", last, top, 1, r, 0, true},
		{"up to the last number", last, top - 3, 4, x, 0, true},
		{"passing 2^32, none has them", two, top, 2, r, 0, false},
		{"passing 2^32, as if from 0 on", []api.Region{region(0, top, r)}, top, 2, r, 0, false},
		{"passing 2^32 by far, as if amid the first", two, 4, top, r, 0, false},
		{"passing 2^32, and one has them", last, top - 3, 9, r, 1, true},
		{"passing 2^32, and one has all but the last", last, top - 3, 10, r, 0, false},
		{"passing 2^32, one that does has not the right", last, top, 2, w, 0, false},
		{"from 0 on, of one that passes 2^32", last, 0, 1, r, 0, false},
		{"the most bytes", []api.Region{region(0, top, r)}, 0, top, r, 0, true},
		{"the most bytes, from 1 on", []api.Region{region(0, top, r), region(1, top, r)}, 1, top, r, 1, true},
	}
	for _, row := range rows {
		got, ok := rights.Find(row.l, row.at, row.size, row.right)
		if got != row.want || ok != row.ok {
			t.Errorf("%s: Find(%v, %d, %d, %d) = %d, %v; want %d, %v", row.name, row.l, row.at, row.size, row.right, got, ok, row.want, row.ok)
		}
	}
}

// P5.4: any lists, as the words say it byte by byte and right by right.
func TestFindByTheWords(t *testing.T) {
	row := sample.From(2)
	found := 0
	for range 50000 {
		l := someOf(row, 10)
		at, size, right := uint32(row.Below(46)), uint32(row.Below(6)), uint8(row.Below(8))
		if row.Below(4) == 0 {
			at = top - uint32(row.Below(5))
		}
		want, wantOK := findByTheWords(l, at, size, right)
		if got, ok := rights.Find(l, at, size, right); got != want || ok != wantOK {
			t.Fatalf("Find(%v, %d, %d, %d) = %d, %v; want %d, %v", l, at, size, right, got, ok, want, wantOK)
		}
		if wantOK {
			found++
		}
	}
	if found < 5000 {
		t.Errorf("only %d were found", found)
	}
}

// P5.5: the chapter's example, and regions at all edges of the memory and of each other.
func TestFree(t *testing.T) {
	rows := []struct {
		name   string
		l      []api.Region
		memory uint32
		want   []stretch
	}{
		{"the example", []api.Region{region(4, 4, r)}, 10, []stretch{{0, 4}, {8, 2}}},
		{"nil", nil, 10, []stretch{{0, 10}}},
		{"none", []api.Region{}, 10, []stretch{{0, 10}}},
		{"none, one byte", nil, 1, []stretch{{0, 1}}},
		{"none, no memory", nil, 0, nil},
		{"one, no memory", []api.Region{region(0, 4, r)}, 0, nil},
		{"none, the most memory", nil, 262144, []stretch{{0, 262144}}},
		{"none, too much memory", nil, 262145, nil},
		{"one, too much memory", []api.Region{region(4, 4, r)}, 262145, nil},
		{"none, far too much memory", nil, top, nil},
		{"one, the most memory", []api.Region{region(4, 4, r)}, 262144, []stretch{{0, 4}, {8, 262136}}},
		{"the last byte of the most memory", []api.Region{region(262143, 1, r)}, 262144, []stretch{{0, 262143}}},
		{"all but the last byte of the most memory", []api.Region{region(0, 262143, r)}, 262144, []stretch{{262143, 1}}},
		{"at the beginning", []api.Region{region(0, 4, r)}, 10, []stretch{{4, 6}}},
		{"at the end", []api.Region{region(6, 4, r)}, 10, []stretch{{0, 6}}},
		{"in the middle, one byte", []api.Region{region(5, 1, r)}, 10, []stretch{{0, 5}, {6, 4}}},
		{"all but the first and the last", []api.Region{region(1, 8, r)}, 10, []stretch{{0, 1}, {9, 1}}},
		{"over all", []api.Region{region(0, 10, r)}, 10, nil},
		{"over all together", []api.Region{region(0, 4, r), region(4, 6, r)}, 10, nil},
		{"touching", []api.Region{region(2, 2, r), region(4, 2, r)}, 10, []stretch{{0, 2}, {6, 4}}},
		{"one byte between", []api.Region{region(2, 2, r), region(5, 2, r)}, 10, []stretch{{0, 2}, {4, 1}, {7, 3}}},
		{"overlapping", []api.Region{region(2, 4, r), region(4, 4, r)}, 10, []stretch{{0, 2}, {8, 2}}},
		{"one within another one", []api.Region{region(2, 6, r), region(4, 1, r)}, 10, []stretch{{0, 2}, {8, 2}}},
		{"of one beginning, the longer one first", []api.Region{region(2, 6, r), region(2, 1, r)}, 10, []stretch{{0, 2}, {8, 2}}},
		{"of one beginning, the longer one last", []api.Region{region(2, 1, r), region(2, 6, r)}, 10, []stretch{{0, 2}, {8, 2}}},
		{"the same twice", []api.Region{region(2, 6, r), region(2, 6, r)}, 10, []stretch{{0, 2}, {8, 2}}},
		{"falling", []api.Region{region(8, 1, r), region(5, 1, r), region(1, 1, r)}, 10, []stretch{{0, 1}, {2, 3}, {6, 2}, {9, 1}}},
		{"in any order", []api.Region{region(5, 1, r), region(8, 1, r), region(0, 1, r), region(3, 1, r)}, 10, []stretch{{1, 2}, {4, 1}, {6, 2}, {9, 1}}},
		{"up to the end, and past it", []api.Region{region(6, 5, r)}, 10, []stretch{{0, 6}}},
		{"far past the end", []api.Region{region(6, top, r)}, 10, []stretch{{0, 6}}},
		{"past the end, another one behind it in the list", []api.Region{region(6, 50, r), region(2, 2, r)}, 10, []stretch{{0, 2}, {4, 2}}},
		{"just behind the end", []api.Region{region(10, 4, r)}, 10, []stretch{{0, 10}}},
		{"far behind the end", []api.Region{region(100, 4, r), region(top, 1, r)}, 10, []stretch{{0, 10}}},
		{"behind the end, passing 2^32", []api.Region{region(top, 5, r)}, 10, []stretch{{0, 10}}},
		{"over more than all", []api.Region{region(0, top, r)}, 10, nil},
		{"of size 0, amid the memory", []api.Region{region(5, 0, r)}, 10, []stretch{{0, 10}}},
		{"of size 0, at the beginning", []api.Region{region(0, 0, r)}, 10, []stretch{{0, 10}}},
		{"of size 0, at the end", []api.Region{region(10, 0, r)}, 10, []stretch{{0, 10}}},
		{"of size 0, amid a free stretch behind a region", []api.Region{region(2, 2, r), region(6, 0, r)}, 10, []stretch{{0, 2}, {4, 6}}},
		{"of size 0, amid another one", []api.Region{region(2, 6, r), region(4, 0, r)}, 10, []stretch{{0, 2}, {8, 2}}},
		{"nothing at all", make([]api.Region, 20), 10, []stretch{{0, 10}}},
		{"whatever their rights", []api.Region{region(1, 1, 0), region(3, 1, w), region(5, 1, 8), region(7, 1, 255)}, 10, []stretch{{0, 1}, {2, 1}, {4, 1}, {6, 1}, {8, 2}}},
		{"more than 8", chain(12), 100, []stretch{{96, 4}}},
	}
	for _, row := range rows {
		if got := free(row.l, row.memory); !slices.Equal(got, row.want) {
			t.Errorf("%s: Free(%v, %d) tells %v, want %v", row.name, row.l, row.memory, got, row.want)
		}
	}
}

// P5.5: any lists, as the words say it byte by byte.
func TestFreeByTheWords(t *testing.T) {
	row := sample.From(3)
	for range 20000 {
		l := someOf(row, 12)
		memory := uint32(row.Below(50))
		if got, want := free(l, memory), freeByTheWords(l, memory); !slices.Equal(got, want) {
			t.Fatalf("Free(%v, %d) tells %v, want %v", l, memory, got, want)
		}
	}
}

// P5.5: a long list, of which each second byte is left.
func TestFreeOfMany(t *testing.T) {
	var l []api.Region
	for n := range uint32(api.MaxMem / 2) {
		l = append(l, region(api.MaxMem-1-2*n, 1, r))
	}
	at := uint32(0)
	for begin, size := range rights.Free(l, api.MaxMem) {
		if begin != at || size != 1 {
			t.Fatalf("%d bytes from %d on, want 1 from %d on", size, begin, at)
		}
		at += 2
	}
	if at != api.MaxMem {
		t.Errorf("the last stretch is ahead of %d", at)
	}
}

// P5.5: what is left early is not gone on with, whichever stretch it was.
func TestFreeLeftEarly(t *testing.T) {
	l := []api.Region{region(8, 1, r), region(1, 1, r), region(5, 0, r), region(5, 1, r)}
	all := []stretch{{0, 1}, {2, 3}, {6, 2}, {9, 1}}
	seq := rights.Free(l, 10)
	for most := 1; most <= len(all); most++ {
		var got []stretch
		seq(func(at, size uint32) bool {
			got = append(got, stretch{at, size})
			return len(got) < most
		})
		if !slices.Equal(got, all[:most]) {
			t.Errorf("left behind %d stretches: %v were told", most, got)
		}
	}
}

// R3, R4, R5: a goer is never nil, goes from the first on each time, also within itself, and keeps nothing of the list.
func TestFreeAgain(t *testing.T) {
	if rights.Free(nil, 0) == nil || rights.Free(nil, top) == nil {
		t.Error("a nil goer")
	}
	l := []api.Region{region(7, 1, r), region(2, 2, r)}
	want := []stretch{{0, 2}, {4, 3}, {8, 2}}
	seq := rights.Free(l, 10)
	l[0], l[1] = region(0, 10, r), region(0, 10, r)
	for range 2 {
		var outer []stretch
		for at, size := range seq {
			outer = append(outer, stretch{at, size})
			var inner []stretch
			for at, size := range seq {
				inner = append(inner, stretch{at, size})
			}
			if !slices.Equal(inner, want) {
				t.Errorf("within itself %v are told, want %v", inner, want)
			}
		}
		if !slices.Equal(outer, want) {
			t.Errorf("%v are told, want %v", outer, want)
		}
	}
}

// P5.6: of lists that may be and are apart, where the one lets write the other finds no right; where they are not, somewhere it does.
func TestApartFindsNothingOfAnother(t *testing.T) {
	row := sample.From(4)
	var told [2]int
	for range 5000 {
		a, b := mayBe(row), mayBe(row)
		apart := rights.Apart(a, b)
		shared := false
		for at := range uint32(40) {
			for _, two := range [][2][]api.Region{{a, b}, {b, a}} {
				_, written := rights.Find(two[0], at, 1, w)
				for _, right := range []uint8{r, w, x} {
					_, found := rights.Find(two[1], at, 1, right)
					shared = shared || written && found
				}
			}
		}
		if shared == apart {
			t.Fatalf("Apart(%v, %v) = %v, but a byte that is written is shared: %v", a, b, apart, shared)
		}
		if apart {
			told[0]++
		} else {
			told[1]++
		}
	}
	if slices.Min(told[:]) < 500 {
		t.Errorf("apart, and not apart, were only %v", told)
	}
}

// P5.6: each byte of the memory is in a stretch that Free tells, or in a region, and in one alone of lists that may be.
func TestEachByteIsSomewhere(t *testing.T) {
	row := sample.From(5)
	for range 5000 {
		l := mayBe(row)
		var in [40]int
		for at, size := range rights.Free(l, 40) {
			for n := range size {
				in[at+n]++
			}
		}
		for _, a := range l {
			for n := range a.Size {
				in[a.Base+n]++
			}
		}
		for at, times := range in {
			if times != 1 {
				t.Fatalf("%v: byte %d is in %d regions and free stretches", l, at, times)
			}
		}
	}
}

// R3: what is handed in is not changed, nor what lies behind it; R5: each call answers the same again.
func TestNothingIsChanged(t *testing.T) {
	row := sample.From(6)
	for range 300 {
		whole := append(someOf(row, 9), chain(3)...)
		other := append(someOf(row, 9), chain(3)...)
		before, otherBefore := slices.Clone(whole), slices.Clone(other)
		l, k := whole[:len(whole)-3], other[:len(other)-3]
		type answers struct {
			err   api.Errno
			apart bool
			n     int
			ok    bool
		}
		var first answers
		var stretches []stretch
		for round := range 2 {
			n, ok := rights.Find(l, 20, 2, r)
			got := answers{rights.Check(l, 50), rights.Apart(l, k), n, ok}
			told := free(l, 50)
			if round > 0 && (got != first || !slices.Equal(told, stretches)) {
				t.Fatalf("%v: %v and %v, then %v and %v", l, first, stretches, got, told)
			}
			first, stretches = got, told
		}
		if !slices.Equal(whole, before) || !slices.Equal(other, otherBefore) {
			t.Fatalf("what was handed in is changed: %v, %v", whole, other)
		}
	}
}
