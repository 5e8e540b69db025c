package wire_test

import (
	"bytes"
	"math"
	"slices"
	"testing"

	"tappet/api"
	"tappet/sample"
	"tappet/wire"
)

// written is what a writer has when that was done to it.
func written(do func(w *wire.Writer)) ([]byte, api.Errno) {
	var w wire.Writer
	do(&w)
	return w.Done()
}

// wantBytes fails unless just these bytes are told, and OK.
func wantBytes(t *testing.T, name string, w *wire.Writer, want []byte) {
	t.Helper()
	if got, err := w.Done(); err != api.OK || !bytes.Equal(got, want) {
		t.Errorf("%s: %d bytes, %.40v, error %d; want %d bytes, %.40v", name, len(got), got, err, len(want), want)
	}
}

// wantNone fails unless no bytes are told, and that error.
func wantNone(t *testing.T, name string, w *wire.Writer, want api.Errno) {
	t.Helper()
	if got, err := w.Done(); err != want || len(got) != 0 {
		t.Errorf("%s: %d bytes, error %d; want none, error %d", name, len(got), err, want)
	}
}

// wantAt fails unless a reader is at that place, with that error.
func wantAt(t *testing.T, name string, r *wire.Reader, at int, err api.Errno) {
	t.Helper()
	if r.At() != at || r.Err() != err {
		t.Errorf("%s: at %d, error %d; want at %d, error %d", name, r.At(), r.Err(), at, err)
	}
}

// filled is a writer of that many bytes.
func filled(size int) *wire.Writer {
	var w wire.Writer
	for range size {
		w.U8(9)
	}
	return &w
}

// value is one of some kind with its bytes: how it is written, and whether it is read as it was (and as zero, where it can't be).
type value struct {
	name  string
	bytes []byte
	put   func(w *wire.Writer)
	same  func(r *wire.Reader) bool
	zero  func(r *wire.Reader) bool
}

// number is a value of a kind of one length.
func number[T comparable](name string, x T, put func(w *wire.Writer, x T), take func(r *wire.Reader) T, b ...byte) value {
	var none T
	return value{name, b,
		func(w *wire.Writer) { put(w, x) },
		func(r *wire.Reader) bool { return take(r) == x },
		func(r *wire.Reader) bool { return take(r) == none }}
}

// text is a value of the kind Bytes, list one of bytes as U8.
func text(b []byte) value {
	n := len(b)
	return value{"Bytes", append([]byte{byte(n), byte(n >> 8), byte(n >> 16), byte(n >> 24)}, b...),
		func(w *wire.Writer) { w.Bytes(b) },
		func(r *wire.Reader) bool { return bytes.Equal(r.Bytes(n), b) },
		func(r *wire.Reader) bool { return len(r.Bytes(n)) == 0 }}
}

func list(b []byte) value {
	n := len(b)
	return value{"a list", append([]byte{byte(n), byte(n >> 8)}, b...),
		func(w *wire.Writer) { wire.Put(w, b, (*wire.Writer).U8) },
		func(r *wire.Reader) bool { return bytes.Equal(wire.Take(r, n, (*wire.Reader).U8), b) },
		func(r *wire.Reader) bool { return len(wire.Take(r, n, (*wire.Reader).U8)) == 0 }}
}

func u8(n uint8, b ...byte) value {
	return number("U8", n, (*wire.Writer).U8, (*wire.Reader).U8, b...)
}

func u16(n uint16, b ...byte) value {
	return number("U16", n, (*wire.Writer).U16, (*wire.Reader).U16, b...)
}

func u32(n uint32, b ...byte) value {
	return number("U32", n, (*wire.Writer).U32, (*wire.Reader).U32, b...)
}

func u64(n uint64, b ...byte) value {
	return number("U64", n, (*wire.Writer).U64, (*wire.Reader).U64, b...)
}

func i32(n int, b ...byte) value {
	return number("I32", n, (*wire.Writer).I32, (*wire.Reader).I32, b...)
}

// values are some of each kind, the lowest and the greatest among them, their bytes written out.
func values() []value {
	return []value{
		u8(0, 0), u8(1, 1), u8(127, 127), u8(128, 128), u8(255, 255),
		u16(0, 0, 0), u16(1, 1, 0), u16(256, 0, 1), u16(258, 2, 1), u16(65534, 254, 255), u16(65535, 255, 255),
		u32(0, 0, 0, 0, 0), u32(1, 1, 0, 0, 0), u32(1<<31, 0, 0, 0, 128), u32(67305985, 1, 2, 3, 4), u32(1<<32-1, 255, 255, 255, 255),
		u64(0, 0, 0, 0, 0, 0, 0, 0, 0), u64(1, 1, 0, 0, 0, 0, 0, 0, 0), u64(1<<32, 0, 0, 0, 0, 1, 0, 0, 0),
		u64(578437695752307201, 1, 2, 3, 4, 5, 6, 7, 8), u64(1<<63, 0, 0, 0, 0, 0, 0, 0, 128), u64(1<<64-1, 255, 255, 255, 255, 255, 255, 255, 255),
		i32(0, 0, 0, 0, 0), i32(1, 1, 0, 0, 0), i32(-1, 255, 255, 255, 255), i32(-2, 254, 255, 255, 255), i32(67305985, 1, 2, 3, 4),
		i32(1<<31-1, 255, 255, 255, 127), i32(1<<31-2, 254, 255, 255, 127), i32(-1<<31, 0, 0, 0, 128), i32(-1<<31+1, 1, 0, 0, 128),
		text(nil), text([]byte{}), text([]byte{0}), text([]byte{7, 8}), text(sample.Text(255)), text(sample.Text(256)), text(sample.Text(65537)),
		list(nil), list([]byte{}), list([]byte{0}), list([]byte{1, 2}), list(sample.Text(255)), list(sample.Text(256)), list(sample.Text(65535)),
	}
}

// The rows of the chapter's table.
func TestExamples(t *testing.T) {
	var w wire.Writer
	w.U16(258)
	w.I32(-1)
	w.Bytes([]byte{7, 8})
	wantBytes(t, "the first row", &w, []byte{2, 1, 255, 255, 255, 255, 2, 0, 0, 0, 7, 8})

	r := wire.From([]byte{1, 2})
	if a, b := r.U16(), r.U8(); a != 513 || b != 0 {
		t.Errorf("From(1 2): %d, %d", a, b)
	}
	wantAt(t, "From(1 2)", r, 2, api.ErrShort)

	r = wire.From([]byte{2, 0, 0, 0, 1})
	if b := r.Bytes(1); len(b) != 0 || r.Err() != api.ErrValue {
		t.Errorf("From(2 0 0 0 1): %v, error %d", b, r.Err())
	}

	b, err := written(func(w *wire.Writer) { wire.Put(w, []uint8{1, 2}, (*wire.Writer).U8) })
	if err != api.OK || !bytes.Equal(b, []byte{2, 0, 1, 2}) {
		t.Errorf("Put of 1, 2: %v, error %d", b, err)
	}
	r = wire.From(b)
	if l := wire.Take(r, 2, (*wire.Reader).U8); !bytes.Equal(l, []byte{1, 2}) || r.End() != api.OK {
		t.Errorf("Take of 1, 2: %v, error %d", l, r.End())
	}
}

// P4.1: the bytes of each kind of value, alone and behind others.
func TestBytesOfValues(t *testing.T) {
	var all wire.Writer
	var behind []byte
	for _, v := range values() {
		var w wire.Writer
		v.put(&w)
		wantBytes(t, v.name, &w, v.bytes)
		if len(v.bytes) < 1000 {
			v.put(&all)
			behind = append(behind, v.bytes...)
			wantBytes(t, v.name+" behind others", &all, behind)
		}
	}
}

// P4.1: an empty writer has no bytes, and no error, however it came to be.
func TestEmptyWriter(t *testing.T) {
	var w wire.Writer
	wantBytes(t, "a variable", &w, nil)
	wantBytes(t, "a new one", new(wire.Writer), nil)
	wantBytes(t, "a literal", &wire.Writer{}, nil)
}

// P4.1: I32 takes no number outside its bounds, at no place.
func TestI32OutOfBounds(t *testing.T) {
	for _, n := range []int{-1<<31 - 1, 1 << 31, 1<<32 - 1, 1 << 32, -1 << 32, 1<<32 + 5, -1<<32 - 5, math.MaxInt, math.MinInt} {
		var w wire.Writer
		w.I32(n)
		wantNone(t, "I32", &w, api.ErrArg)
		behind := filled(3)
		behind.I32(n)
		behind.I32(0)
		wantNone(t, "I32 behind others", behind, api.ErrArg)
	}
}

// P4.1: a list of 65535 things may be, one of more may not; its things are then not asked for.
func TestPutOfMany(t *testing.T) {
	type nothing struct{}
	calls := 0
	one := func(w *wire.Writer, x nothing) { calls++ }
	for _, n := range []int{0, 1, 255, 256, 65534, 65535} {
		var w wire.Writer
		calls = 0
		wire.Put(&w, make([]nothing, n), one)
		wantBytes(t, "things of no bytes", &w, []byte{byte(n), byte(n >> 8)})
		if calls != n {
			t.Errorf("of %d things %d are written", n, calls)
		}
	}
	for _, n := range []int{65536, 65537, 131072, 1 << 20} {
		var w wire.Writer
		calls = 0
		wire.Put(&w, make([]nothing, n), one)
		wantNone(t, "too many things", &w, api.ErrArg)
		if calls != 0 {
			t.Errorf("of %d things, too many, %d are written", n, calls)
		}
	}
}

// P4.1: things are written one behind the other, in the list's order, each by what is handed in, and on this writer.
func TestPutOfThings(t *testing.T) {
	type pair struct {
		n int
		b []byte
	}
	var w wire.Writer
	w.U8(5)
	wire.Put(&w, []pair{{-1, []byte{1}}, {2, nil}, {1 << 30, []byte{3, 4}}}, func(at *wire.Writer, x pair) {
		if at != &w {
			t.Error("another writer is handed on")
		}
		at.I32(x.n)
		at.Bytes(x.b)
	})
	w.U8(6)
	wantBytes(t, "pairs", &w, []byte{5, 3, 0,
		255, 255, 255, 255, 1, 0, 0, 0, 1,
		2, 0, 0, 0, 0, 0, 0, 0,
		0, 0, 0, 64, 2, 0, 0, 0, 3, 4, 6})
}

// P4.1: just MaxBytes bytes may be, and not one more, by each kind of value.
func TestJustMaxBytes(t *testing.T) {
	for _, v := range values() {
		w := filled(api.MaxBytes - len(v.bytes))
		v.put(w)
		wantBytes(t, v.name+" up to MaxBytes", w, append(bytes.Repeat([]byte{9}, api.MaxBytes-len(v.bytes)), v.bytes...))
		w.U8(0)
		wantNone(t, v.name+" and a byte behind MaxBytes", w, api.ErrLong)

		w = filled(api.MaxBytes - len(v.bytes) + 1)
		v.put(w)
		wantNone(t, v.name+" beyond MaxBytes", w, api.ErrLong)
	}
	for _, size := range []int{api.MaxBytes - 4, api.MaxBytes - 3, api.MaxBytes, api.MaxBytes + 1, 1 << 24} {
		var w wire.Writer
		w.Bytes(make([]byte, size))
		if size == api.MaxBytes-4 {
			wantBytes(t, "Bytes alone", &w, append([]byte{252, 255, 7, 0}, make([]byte, size)...))
		} else {
			wantNone(t, "Bytes alone", &w, api.ErrLong)
		}
	}
}

// P4.1: lists whose things fill a writer, and ones whose things, or whose count, do not go into it.
func TestListsUpToMaxBytes(t *testing.T) {
	things := make([]uint64, 65535)
	for room := range 8 {
		w := filled(api.MaxBytes - 2 - 8*65535 + room - 6)
		wire.Put(w, things, (*wire.Writer).U64)
		if _, err := w.Done(); (err == api.OK) != (room <= 6) || err != api.OK && err != api.ErrLong {
			t.Errorf("65535 things of 8 bytes, %d bytes too many: error %d", room-6, err)
		}
	}
	calls := 0
	w := filled(api.MaxBytes - 1)
	wire.Put(w, things, func(w *wire.Writer, x uint64) { calls++ })
	wantNone(t, "no room for the count", w, api.ErrLong)
	if calls != 0 {
		t.Errorf("no room for the count: %d things are written", calls)
	}
	w = filled(api.MaxBytes - 2 - 5)
	wire.Put(w, make([]uint16, 10), func(w *wire.Writer, x uint16) { calls++; w.U16(x) })
	wantNone(t, "room for two things and a half", w, api.ErrLong)
	if calls != 3 {
		t.Errorf("room for two things and a half: %d are written", calls)
	}
}

// R2: ErrArg stands ahead of ErrLong.
func TestErrArgGoesAhead(t *testing.T) {
	for size := api.MaxBytes - 3; size <= api.MaxBytes; size++ {
		w := filled(size)
		w.I32(1 << 31)
		wantNone(t, "I32 without room", w, api.ErrArg)
		w = filled(size)
		w.I32(0)
		wantNone(t, "I32 within its bounds without room", w, api.ErrLong)
		w = filled(size)
		wire.Put(w, make([]uint8, 65536), (*wire.Writer).U8)
		wantNone(t, "Put without room", w, api.ErrArg)
		w = filled(size)
		wire.Put(w, make([]uint8, 65535), (*wire.Writer).U8)
		wantNone(t, "Put of as many things as may be, without room", w, api.ErrLong)
	}
}

// A writer with an error does nothing: the first one stays, and things are not asked for.
func TestWriterBehindAnError(t *testing.T) {
	rows := []struct {
		first api.Errno
		make  func() *wire.Writer
	}{
		{api.ErrArg, func() *wire.Writer { w := filled(5); w.I32(1 << 31); return w }},
		{api.ErrArg, func() *wire.Writer { w := filled(5); wire.Put(w, make([]int, 65536), (*wire.Writer).I32); return w }},
		{api.ErrArg, func() *wire.Writer { w := filled(5); wire.Put(w, []int{1, 1 << 31, 2}, (*wire.Writer).I32); return w }},
		{api.ErrLong, func() *wire.Writer { w := filled(5); w.Bytes(make([]byte, api.MaxBytes)); return w }},
		{api.ErrLong, func() *wire.Writer { w := filled(api.MaxBytes - 3); w.U32(7); return w }},
	}
	for _, r := range rows {
		for _, v := range values() {
			w := r.make()
			wantNone(t, "the error", w, r.first)
			v.put(w)
			wantNone(t, v.name+" behind an error", w, r.first)
		}
		w := r.make()
		w.I32(1 << 31)
		w.Bytes(make([]byte, api.MaxBytes))
		wire.Put(w, make([]int, 65536), (*wire.Writer).I32)
		wire.Put(w, []int{1}, func(w *wire.Writer, x int) { t.Error("a thing is written behind an error") })
		wantNone(t, "errors behind an error", w, r.first)
		wantNone(t, "the error, asked for anew", w, r.first)
	}
}

// The first error of a list's things ends it.
func TestPutEndsAtAnError(t *testing.T) {
	calls := 0
	var w wire.Writer
	wire.Put(&w, []int{1, 2, -1 << 32, 4, 5}, func(w *wire.Writer, x int) { calls++; w.I32(x) })
	wantNone(t, "a thing that may not be", &w, api.ErrArg)
	if calls != 3 {
		t.Errorf("%d things are written, the third of which may not be", calls)
	}
}

// Calls of nil do nothing, and tell zero; Done, Err and End: ErrArg.
func TestCallsOfNil(t *testing.T) {
	var w *wire.Writer
	for _, v := range values() {
		v.put(w)
	}
	w.I32(1 << 31)
	w.Bytes(make([]byte, api.MaxBytes+1))
	wire.Put(w, make([]int, 65536), (*wire.Writer).I32)
	wire.Put(w, []int{1}, func(w *wire.Writer, x int) { t.Error("a thing is written to nil") })
	wire.Put[int](w, []int{1}, nil)
	if b, err := w.Done(); len(b) != 0 || err != api.ErrArg {
		t.Errorf("Done of nil: %v, error %d", b, err)
	}

	var r *wire.Reader
	for _, v := range values() {
		if !v.zero(r) {
			t.Errorf("%s of nil is not zero", v.name)
		}
	}
	for _, most := range []int{math.MinInt, -1, 0, 1, math.MaxInt} {
		b := r.Bytes(most)
		l := wire.Take(r, most, func(r *wire.Reader) int { t.Error("a thing is read from nil"); return 1 })
		if len(b) != 0 || len(l) != 0 || len(wire.Take[int](r, most, nil)) != 0 {
			t.Errorf("of nil, at most %d: %v, %v", most, b, l)
		}
	}
	if r.At() != 0 || r.Err() != api.ErrArg || r.End() != api.ErrArg {
		t.Errorf("nil: at %d, error %d, end %d", r.At(), r.Err(), r.End())
	}
}

// R1: a function that is nil is no way to write or read a thing; where there is no thing it is not asked.
func TestNilFunctions(t *testing.T) {
	var w wire.Writer
	wire.Put[int](&w, nil, nil)
	wire.Put[int](&w, []int{}, nil)
	wantBytes(t, "no things", &w, []byte{0, 0, 0, 0})
	wire.Put[int](&w, []int{1}, nil)
	wantNone(t, "a thing", &w, api.ErrArg)

	r := wire.From([]byte{0, 0, 1, 0, 7})
	if l := wire.Take[int](r, 1, nil); len(l) != 0 {
		t.Errorf("no things: %v", l)
	}
	wantAt(t, "no things", r, 2, api.OK)
	if l := wire.Take[int](r, 1, nil); len(l) != 0 {
		t.Errorf("a thing: %v", l)
	}
	wantAt(t, "a thing", r, 4, api.ErrArg)
}

// P4.2: each kind of value, from just enough bytes, and with others ahead and behind; the place is behind it.
func TestReadValues(t *testing.T) {
	for _, v := range values() {
		for _, ahead := range []int{0, 1, 5} {
			for _, behind := range []int{0, 1, 9} {
				b := slices.Concat(make([]byte, ahead), v.bytes, bytes.Repeat([]byte{255}, behind))
				r := wire.From(b)
				for range ahead {
					r.U8()
				}
				if !v.same(r) {
					t.Errorf("%s of %.20v is read otherwise", v.name, v.bytes)
				}
				wantAt(t, v.name, r, ahead+len(v.bytes), api.OK)
				want := api.OK
				if behind > 0 {
					want = api.ErrExtra
				}
				if got := r.End(); got != want {
					t.Errorf("%s, %d bytes left: End tells %d", v.name, behind, got)
				}
			}
		}
	}
}

// P4.2: with too few bytes there is no number, and the place stays.
func TestTooFewBytesForNumbers(t *testing.T) {
	for _, v := range values() {
		if v.name == "Bytes" || v.name == "a list" {
			continue
		}
		for cut := range len(v.bytes) {
			for _, ahead := range []int{0, 3} {
				r := wire.From(append(make([]byte, ahead), bytes.Repeat([]byte{255}, cut)...))
				for range ahead {
					r.U8()
				}
				if !v.zero(r) {
					t.Errorf("%s of %d bytes is not zero", v.name, cut)
				}
				wantAt(t, v.name, r, ahead, api.ErrShort)
				if r.End() != api.ErrShort {
					t.Errorf("%s of %d bytes: End tells %d", v.name, cut, r.End())
				}
			}
		}
	}
	for _, b := range [][]byte{nil, {}, []byte("abc")[:0]} {
		r := wire.From(b)
		wantAt(t, "no bytes", r, 0, api.OK)
		if r.End() != api.OK || r.U8() != 0 {
			t.Error("no bytes: something is read")
		}
		wantAt(t, "no bytes, U8", r, 0, api.ErrShort)
	}
}

// P4.2: Bytes with a most of all kinds: ErrValue, behind the count, goes ahead of ErrShort; where that is told the place stays.
func TestBytesOfMost(t *testing.T) {
	five := []byte{9, 5, 0, 0, 0, 10, 20, 30, 40, 50}
	rows := []struct {
		name string
		b    []byte
		most int
		want []byte
		at   int
		err  api.Errno
	}{
		{"just enough", five, 5, five[5:], 10, api.OK},
		{"more than enough", five, 6, five[5:], 10, api.OK},
		{"any number", five, math.MaxInt, five[5:], 10, api.OK},
		{"one too few", five, 4, nil, 5, api.ErrValue},
		{"most 0", five, 0, nil, 5, api.ErrValue},
		{"most -1", five, -1, nil, 5, api.ErrValue},
		{"most the lowest", five, math.MinInt, nil, 5, api.ErrValue},
		{"most 5 modulo 2^32, below 0", five, 5 - 1<<32, nil, 5, api.ErrValue},
		{"a byte is missing", five[:9], 5, nil, 1, api.ErrShort},
		{"a byte is missing, any number", five[:9], math.MaxInt, nil, 1, api.ErrShort},
		{"all bytes are missing", five[:5], 5, nil, 1, api.ErrShort},
		{"a byte is missing, and too many", five[:9], 4, nil, 5, api.ErrValue},
		{"a byte is missing, most -1", five[:9], -1, nil, 5, api.ErrValue},
		{"a byte of the count is missing", five[:4], 5, nil, 1, api.ErrShort},
		{"the count is missing", five[:1], math.MaxInt, nil, 1, api.ErrShort},
		{"a byte of the count is missing, most -1", five[:4], -1, nil, 1, api.ErrShort},
		{"none, most 0", []byte{9, 0, 0, 0, 0}, 0, nil, 5, api.OK},
		{"none, most 1", []byte{9, 0, 0, 0, 0, 1}, 1, nil, 5, api.OK},
		{"none, most -1", []byte{9, 0, 0, 0, 0}, -1, nil, 5, api.ErrValue},
		{"the greatest count", []byte{9, 255, 255, 255, 255, 1}, math.MaxInt, nil, 1, api.ErrShort},
		{"the greatest count, just allowed", []byte{9, 255, 255, 255, 255, 1}, 1<<32 - 1, nil, 1, api.ErrShort},
		{"the greatest count, one too many", []byte{9, 255, 255, 255, 255, 1}, 1<<32 - 2, nil, 5, api.ErrValue},
		{"the greatest count, most -1", []byte{9, 255, 255, 255, 255, 1}, -1, nil, 5, api.ErrValue},
		{"a count of 2^31", []byte{9, 0, 0, 0, 128, 1}, 1 << 31, nil, 1, api.ErrShort},
		{"a count of 2^31, one too many", []byte{9, 0, 0, 0, 128, 1}, 1<<31 - 1, nil, 5, api.ErrValue},
	}
	for _, row := range rows {
		r := wire.From(row.b)
		r.U8()
		if got := r.Bytes(row.most); !bytes.Equal(got, row.want) {
			t.Errorf("%s: %v, want %v", row.name, got, row.want)
		}
		wantAt(t, row.name, r, row.at, row.err)
	}
}

// P4.2: Take with a most of all kinds, likewise.
func TestTakeOfMost(t *testing.T) {
	three := []byte{9, 3, 0, 1, 2, 3, 4, 5, 6}
	all := []uint16{513, 1027, 1541}
	rows := []struct {
		name  string
		b     []byte
		most  int
		want  []uint16
		calls int
		at    int
		err   api.Errno
	}{
		{"just enough", three, 3, all, 3, 9, api.OK},
		{"more than enough", three, 4, all, 3, 9, api.OK},
		{"any number", three, math.MaxInt, all, 3, 9, api.OK},
		{"one too few", three, 2, nil, 0, 3, api.ErrValue},
		{"most 0", three, 0, nil, 0, 3, api.ErrValue},
		{"most -1", three, -1, nil, 0, 3, api.ErrValue},
		{"most the lowest", three, math.MinInt, nil, 0, 3, api.ErrValue},
		{"most 3 modulo 2^16, below 0", three, 3 - 1<<16, nil, 0, 3, api.ErrValue},
		{"a byte is missing", three[:8], 3, nil, 3, 7, api.ErrShort},
		{"a thing is missing", three[:7], 3, nil, 3, 7, api.ErrShort},
		{"all things are missing", three[:3], 3, nil, 1, 3, api.ErrShort},
		{"a byte is missing, and too many", three[:8], 2, nil, 0, 3, api.ErrValue},
		{"a byte of the count is missing", three[:2], 3, nil, 0, 1, api.ErrShort},
		{"the count is missing", three[:1], 3, nil, 0, 1, api.ErrShort},
		{"a byte of the count is missing, most -1", three[:2], -1, nil, 0, 1, api.ErrShort},
		{"none, most 0", []byte{9, 0, 0}, 0, nil, 0, 3, api.OK},
		{"none, most 1", []byte{9, 0, 0, 1}, 1, nil, 0, 3, api.OK},
		{"none, most -1", []byte{9, 0, 0}, -1, nil, 0, 3, api.ErrValue},
		{"the greatest count", []byte{9, 255, 255, 1}, 65535, nil, 1, 3, api.ErrShort},
		{"the greatest count, one too many", []byte{9, 255, 255, 1}, 65534, nil, 0, 3, api.ErrValue},
	}
	for _, row := range rows {
		r := wire.From(row.b)
		r.U8()
		calls := 0
		got := wire.Take(r, row.most, func(at *wire.Reader) uint16 {
			if at != r {
				t.Errorf("%s: another reader is handed on", row.name)
			}
			calls++
			return at.U16()
		})
		if !slices.Equal(got, row.want) || calls != row.calls {
			t.Errorf("%s: %v, %d asked for; want %v, %d asked for", row.name, got, calls, row.want, row.calls)
		}
		wantAt(t, row.name, r, row.at, row.err)
	}
}

// P4.2: as many things as may be, of no bytes and of some.
func TestTakeOfMany(t *testing.T) {
	r := wire.From([]byte{255, 255})
	if l := wire.Take(r, 65535, func(r *wire.Reader) int { return 7 }); len(l) != 65535 || l[0] != 7 || l[65534] != 7 {
		t.Errorf("things of no bytes: %d", len(l))
	}
	wantAt(t, "things of no bytes", r, 2, api.OK)
	b := append([]byte{255, 255}, sample.Text(65535)...)
	r = wire.From(b)
	if l := wire.Take(r, 65535, (*wire.Reader).U8); !bytes.Equal(l, b[2:]) || r.End() != api.OK {
		t.Errorf("65535 bytes: %d, error %d", len(l), r.End())
	}
}

// P4.2: a thing that may not be ends a list, and none of it is told, nor of the list around it.
func TestTakeOfThingsThatMayNotBe(t *testing.T) {
	texts := func(r *wire.Reader) [][]byte {
		return wire.Take(r, 9, func(r *wire.Reader) []byte { return r.Bytes(2) })
	}
	b := []byte{2, 0, 2, 0, 1, 0, 0, 0, 5, 2, 0, 0, 0, 6, 7, 1, 0, 3, 0, 0, 0, 1, 2, 3, 4}
	r := wire.From(b)
	if l := wire.Take(r, 9, texts); len(l) != 0 {
		t.Errorf("a text that is too long in a list: %v", l)
	}
	wantAt(t, "a text that is too long", r, 21, api.ErrValue)
	b[17] = 2
	r = wire.From(b)
	if l := wire.Take(r, 9, texts); len(l) != 2 || len(l[0]) != 2 || !bytes.Equal(l[1][0], []byte{1, 2}) {
		t.Errorf("lists of texts: %v", l)
	}
	wantAt(t, "lists of texts", r, 23, api.OK)
	for cut := range 23 {
		r := wire.From(b[:cut])
		if l := wire.Take(r, 9, texts); len(l) != 0 || r.Err() != api.ErrShort || r.End() != api.ErrShort {
			t.Errorf("lists of texts, %d bytes of 23: %v, error %d", cut, l, r.Err())
		}
	}
}

// A reader with an error does nothing: the place and the first error stay, and things are not asked for.
func TestReaderBehindAnError(t *testing.T) {
	rows := []struct {
		first api.Errno
		at    int
		make  func() *wire.Reader
	}{
		{api.ErrShort, 0, func() *wire.Reader { r := wire.From([]byte{1, 2, 3}); r.U32(); return r }},
		{api.ErrShort, 1, func() *wire.Reader { r := wire.From([]byte{1, 2, 3, 4}); r.U8(); r.U64(); return r }},
		{api.ErrShort, 0, func() *wire.Reader { r := wire.From([]byte{3, 0, 0, 0, 1, 2}); r.Bytes(3); return r }},
		{api.ErrValue, 4, func() *wire.Reader { r := wire.From(make([]byte, 99)); r.Bytes(-1); return r }},
		{api.ErrValue, 2, func() *wire.Reader { r := wire.From(make([]byte, 99)); wire.Take(r, -1, (*wire.Reader).U8); return r }},
		{api.ErrShort, 3, func() *wire.Reader {
			r := wire.From([]byte{2, 0, 7})
			wire.Take(r, 2, (*wire.Reader).U8)
			return r
		}},
	}
	for _, row := range rows {
		r := row.make()
		for _, v := range values() {
			wantAt(t, "ahead of "+v.name, r, row.at, row.first)
			if !v.zero(r) {
				t.Errorf("%s behind an error is not zero", v.name)
			}
		}
		r.Bytes(-1)
		wire.Take(r, -1, (*wire.Reader).U8)
		wire.Take(r, 9, func(r *wire.Reader) int { t.Error("a thing is read behind an error"); return 1 })
		wire.Take[int](r, 9, nil)
		wantAt(t, "behind all", r, row.at, row.first)
		if r.End() != row.first {
			t.Errorf("End behind error %d: %d", row.first, r.End())
		}
	}
}

// P4.2: End tells of bytes that are left, and changes nothing.
func TestEnd(t *testing.T) {
	b := []byte{1, 2, 3}
	r := wire.From(b)
	for i, x := range b {
		if r.End() != api.ErrExtra || r.End() != api.ErrExtra {
			t.Errorf("at %d of 3: End tells %d", i, r.End())
		}
		wantAt(t, "behind End", r, i, api.OK)
		if got := r.U8(); got != x {
			t.Errorf("byte %d is read as %d", i, got)
		}
	}
	if r.End() != api.OK || r.Err() != api.OK || r.End() != api.OK {
		t.Errorf("at the end: %d", r.End())
	}
	r.U8()
	if r.End() != api.ErrShort {
		t.Errorf("behind the end: %d", r.End())
	}
}

// P4.2: a reader has no bound of its own; a writer does not take so many.
func TestReaderOfMoreThanMaxBytes(t *testing.T) {
	b := append([]byte{1, 0, 8, 0}, sample.Text(api.MaxBytes+1)...)
	r := wire.From(b)
	got := r.Bytes(math.MaxInt)
	if !bytes.Equal(got, b[4:]) || r.End() != api.OK {
		t.Errorf("%d bytes are read, error %d", len(got), r.End())
	}
	var w wire.Writer
	w.Bytes(got)
	wantNone(t, "what was read", &w, api.ErrLong)
}

// tree is any value: of which kind, and what it is of that kind.
type tree struct {
	kind int
	n    uint64
	b    []byte
	l    []tree
}

// The kinds of trees: numbers, texts, and lists whose things are all as one shape says, or each as it is.
const (
	kindU8 = iota
	kindU16
	kindU32
	kindU64
	kindI32
	kindBytes
	kindList
	kinds
)

// put writes a tree.
func put(w *wire.Writer, x tree) {
	switch x.kind {
	case kindU8:
		w.U8(uint8(x.n))
	case kindU16:
		w.U16(uint16(x.n))
	case kindU32:
		w.U32(uint32(x.n))
	case kindU64:
		w.U64(x.n)
	case kindI32:
		w.I32(int(x.n))
	case kindBytes:
		w.Bytes(x.b)
	case kindList:
		wire.Put(w, x.l, put)
	}
}

// take answers how a tree of that shape is read; a list's things are as its first one.
func take(shape tree) func(r *wire.Reader) tree {
	return func(r *wire.Reader) tree {
		x := tree{kind: shape.kind}
		switch shape.kind {
		case kindU8:
			x.n = uint64(r.U8())
		case kindU16:
			x.n = uint64(r.U16())
		case kindU32:
			x.n = uint64(r.U32())
		case kindU64:
			x.n = r.U64()
		case kindI32:
			x.n = uint64(r.I32())
		case kindBytes:
			x.b = r.Bytes(math.MaxInt)
		case kindList:
			x.l = wire.Take(r, math.MaxInt, take(shape.l[0]))
		}
		return x
	}
}

// sameTree tells whether two trees are the same.
func sameTree(a, b tree) bool {
	return a.kind == b.kind && a.n == b.n && bytes.Equal(a.b, b.b) && slices.EqualFunc(a.l, b.l, sameTree)
}

// row makes trees up, alike in each run.
type row struct{ *sample.Row }

// shape makes one up: lists go no deeper than that.
func (s row) shape(deep int) tree {
	kind := s.Below(kinds)
	if kind != kindList {
		return tree{kind: kind}
	}
	if deep == 0 {
		return tree{kind: kindBytes}
	}
	return tree{kind: kind, l: []tree{s.shape(deep - 1)}}
}

// fill makes a tree of that shape up.
func (s row) fill(shape tree) tree {
	x := tree{kind: shape.kind}
	switch x.kind {
	case kindBytes:
		x.b = sample.Text(s.Below(20))
	case kindList:
		for range s.Below(5) {
			x.l = append(x.l, s.fill(shape.l[0]))
		}
	case kindI32:
		x.n = uint64(int64(int32(s.Next())))
	case kindU64:
		x.n = s.Next()
	default:
		x.n = s.Next() & (1<<(8<<x.kind) - 1)
	}
	return x
}

// P4.3: what was written is read as it was, lists of lists among it, and behind it End is OK; cut off it is not there.
func TestWrittenIsRead(t *testing.T) {
	s := row{sample.From(1)}
	for round := range 3000 {
		var w wire.Writer
		var shapes, all []tree
		for range s.Below(8) {
			shape := s.shape(3)
			shapes, all = append(shapes, shape), append(all, s.fill(shape))
			put(&w, all[len(all)-1])
		}
		b, err := w.Done()
		if err != api.OK {
			t.Fatalf("round %d: error %d", round, err)
		}
		r := wire.From(b)
		for i, shape := range shapes {
			if got := take(shape)(r); !sameTree(got, all[i]) {
				t.Fatalf("round %d: %+v is read as %+v", round, all[i], got)
			}
		}
		wantAt(t, "what was written", r, len(b), api.OK)
		if r.End() != api.OK {
			t.Fatalf("round %d: End tells %d", round, r.End())
		}
		if len(b) == 0 {
			continue
		}
		r = wire.From(b[:s.Below(len(b))])
		for _, shape := range shapes {
			take(shape)(r)
		}
		if r.End() != api.ErrShort {
			t.Fatalf("round %d: cut off, End tells %d", round, r.End())
		}
	}
}

// P4.3: whatever bytes can be read as values of some kinds, these values are written with just these bytes.
func TestReadIsWritten(t *testing.T) {
	s := row{sample.From(2)}
	read := 0
	for round := range 20000 {
		b := sample.Text(s.Below(60) + 1)
		// Counts are seldom small in bytes of all kinds, so most bytes are made so.
		for i := range b {
			if s.Below(8) > 0 {
				b[i] = byte(s.Below(3) * s.Below(2))
			}
		}
		r := wire.From(b)
		var w wire.Writer
		for range s.Below(6) {
			at := r.At()
			shape := s.shape(3)
			x := take(shape)(r)
			if r.Err() != api.OK {
				if !sameTree(x, tree{kind: shape.kind}) {
					t.Fatalf("round %d: beside an error %+v is told", round, x)
				}
				break
			}
			put(&w, x)
			if got, err := w.Done(); err != api.OK || !bytes.Equal(got, b[:r.At()]) {
				t.Fatalf("round %d: %v, from %d on, is read as %+v, and written as %v, error %d", round, b, at, x, got, err)
			}
			read++
		}
	}
	if read < 10000 {
		t.Errorf("only %d values could be read", read)
	}
}

// P4.3 at the edge: MaxBytes bytes as one text, and as a list of the most things.
func TestLongIsReadAndWritten(t *testing.T) {
	texts := make([][]byte, 65535)
	for i := range texts {
		texts[i] = sample.Text(i % 5)
	}
	one := func(r *wire.Reader) []byte { return r.Bytes(4) }
	var w wire.Writer
	wire.Put(&w, texts, (*wire.Writer).Bytes)
	b, _ := w.Done()
	w.Bytes(sample.Text(api.MaxBytes - len(b) - 4))
	b, err := w.Done()
	if len(b) != api.MaxBytes || err != api.OK {
		t.Fatalf("%d bytes, error %d", len(b), err)
	}
	r := wire.From(b)
	if got := wire.Take(r, 65535, one); !slices.EqualFunc(got, texts, bytes.Equal) {
		t.Error("the list is read otherwise")
	}
	rest := r.Bytes(api.MaxBytes)
	if r.End() != api.OK {
		t.Errorf("End tells %d", r.End())
	}
	var again wire.Writer
	wire.Put(&again, texts, (*wire.Writer).Bytes)
	again.Bytes(rest)
	wantBytes(t, "what was read", &again, b)
}

// R3: what is handed in is not changed, nor what lies behind it.
func TestNothingIsChanged(t *testing.T) {
	whole := sample.Text(200)
	before := bytes.Clone(whole)
	var w wire.Writer
	w.Bytes(whole[10:90])
	wire.Put(&w, whole[20:50], (*wire.Writer).U8)
	w.U64(7)
	r := wire.From(whole[:120])
	for range 5 {
		r.U64()
	}
	r.Bytes(math.MaxInt)
	w.Done()
	b, _ := written(func(w *wire.Writer) { w.Bytes(whole[3:9]) })
	r = wire.From(append(b[:len(b):len(b)], whole...)[:len(b)+5])
	r.Bytes(6)
	r.U32()
	if !bytes.Equal(whole, before) {
		t.Error("what was handed in is changed")
	}
}

// R3: what is handed in is not kept: what becomes of it behind the call makes no difference.
func TestNothingIsKept(t *testing.T) {
	b := []byte{2, 0, 0, 0, 7, 8, 9, 1, 0, 5}
	r := wire.From(b)
	var w wire.Writer
	given := []byte{1, 2, 3}
	w.Bytes(given)
	wire.Put(&w, given, (*wire.Writer).U8)
	clear(b)
	clear(given)
	if got := r.Bytes(2); !bytes.Equal(got, []byte{7, 8}) {
		t.Errorf("bytes that were changed behind From: %v", got)
	}
	if x, l := r.U8(), wire.Take(r, 1, (*wire.Reader).U8); x != 9 || !bytes.Equal(l, []byte{5}) {
		t.Errorf("bytes that were changed behind From: %d, %v", x, l)
	}
	wantBytes(t, "bytes that were changed behind Bytes", &w, []byte{3, 0, 0, 0, 1, 2, 3, 3, 0, 1, 2, 3})
}

// What is told is the asker's: nothing that is done later changes it, nor does a change of it tell later.
func TestAnswersAreTheirOwn(t *testing.T) {
	var w wire.Writer
	w.U16(258)
	first, _ := w.Done()
	w.U16(772)
	second, _ := w.Done()
	third, err := w.Done()
	if !bytes.Equal(first, []byte{2, 1}) || !bytes.Equal(second, []byte{2, 1, 4, 3}) || !bytes.Equal(third, second) || err != api.OK {
		t.Errorf("%v, %v, %v", first, second, third)
	}
	_ = append(first, 77)
	clear(second)
	wantBytes(t, "answers that were changed", &w, []byte{2, 1, 4, 3})

	r := wire.From([]byte{1, 0, 0, 0, 5, 1, 0, 0, 0, 6, 9})
	five := r.Bytes(1)
	_ = append(five, 77, 77, 77, 77, 77, 77)
	six := r.Bytes(1)
	five[0] = 0
	if !bytes.Equal(six, []byte{6}) || r.U8() != 9 || r.End() != api.OK {
		t.Errorf("behind an answer that was changed: %v, error %d", six, r.End())
	}
}

// R5: writers and readers know nothing of each other.
func TestEachIsItsOwn(t *testing.T) {
	var a, b wire.Writer
	a.I32(1 << 31)
	b.U8(1)
	wantNone(t, "one with an error", &a, api.ErrArg)
	wantBytes(t, "one without", &b, []byte{1})
	bytes := []byte{1, 2, 3}
	one, other := wire.From(bytes), wire.From(bytes)
	one.U64()
	if other.U16() != 513 || other.At() != 2 || other.Err() != api.OK || one.At() != 0 || one.Err() != api.ErrShort {
		t.Errorf("at %d, error %d; at %d, error %d", one.At(), one.Err(), other.At(), other.Err())
	}
}
