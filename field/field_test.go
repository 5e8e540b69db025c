package field_test

import (
	"math"
	"slices"
	"testing"

	"tappet/api"
	"tappet/field"
	"tappet/sample"
)

// most is the greatest word.
const most = math.MaxUint32

// words is a short form.
func words(l ...uint32) []uint32 { return l }

// def is a short form: readers by their numbers.
func def(ins int, safe []uint32, writer int, readers ...int) api.FieldDef {
	d := api.FieldDef{Ins: ins, Safe: safe, Writer: writer}
	for _, part := range readers {
		d.Readers |= 1 << part
	}
	return d
}

// rising answers as many words, each one more than the one ahead.
func rising(count int, first uint32) []uint32 {
	l := make([]uint32, count)
	for n := range l {
		l[n] = first + uint32(n)
	}
	return l
}

// model is a field by the chapter's words; a word that was not put out has no key.
type model struct {
	def  api.FieldDef
	ins  []uint32
	outs []uint32
	puts map[int]uint32
}

func modelOf(d api.FieldDef) *model {
	d.Safe = slices.Clone(d.Safe)
	return &model{d, make([]uint32, d.Ins), slices.Clone(d.Safe), map[int]uint32{}}
}

// copied answers another model that stands so.
func (m *model) copied() *model {
	other := modelOf(m.def)
	other.ins, other.outs = slices.Clone(m.ins), slices.Clone(m.outs)
	for n, x := range m.puts {
		other.puts[n] = x
	}
	return other
}

// refusal tells the first error by the words: of the right, then of the word's number.
func refusal(may bool, n, count int) api.Errno {
	switch {
	case !may:
		return api.ErrRights
	case n < 0 || n > count-1:
		return api.ErrRange
	}
	return api.OK
}

func (m *model) latch(ins []uint32) api.Errno {
	if len(ins) != m.def.Ins {
		return api.ErrArg
	}
	m.ins, m.puts = slices.Clone(ins), map[int]uint32{}
	return api.OK
}

func (m *model) in(part, n int) (uint32, api.Errno) {
	if err := refusal(sample.InSet(m.def.Readers, part), n, m.def.Ins); err != api.OK {
		return 0, err
	}
	return m.ins[n], api.OK
}

func (m *model) out(part, n int, x uint32) api.Errno {
	err := refusal(part == m.def.Writer, n, len(m.def.Safe))
	if err == api.OK {
		m.puts[n] = x
	}
	return err
}

func (m *model) commit(ok bool) {
	for n := range m.outs {
		m.outs[n] = m.def.Safe[n]
		if x, was := m.puts[n]; was && ok {
			m.outs[n] = x
		}
	}
	m.puts = map[int]uint32{}
}

// state is all that a field has: its words, and what the output words would be behind a Commit of either kind.
type state struct{ ins, outs, next, safe []uint32 }

func (s state) same(o state) bool {
	return slices.Equal(s.ins, o.ins) && slices.Equal(s.outs, o.outs) && slices.Equal(s.next, o.next) && slices.Equal(s.safe, o.safe)
}

func (m *model) state() state {
	next := m.copied()
	next.commit(true)
	return state{m.ins, m.outs, next.outs, m.def.Safe}
}

// look tells all that this field has: what its calls do not tell at once is told by copies of it.
func look(f *field.Field) state {
	next, safe := f.Copy(), f.Copy()
	next.Commit(true)
	safe.Commit(false)
	return state{f.Ins(), f.Outs(), next.Outs(), safe.Outs()}
}

// made answers a field of this definition.
func made(t *testing.T, d api.FieldDef) *field.Field {
	t.Helper()
	f, err := field.New(d)
	if err != api.OK || f == nil {
		t.Fatalf("New(%v) tells %v, %d", d, f, err)
	}
	return f
}

// twin is a field and its model, each call of which is made of both.
type twin struct {
	t *testing.T
	f *field.Field
	m *model
}

func twinOf(t *testing.T, d api.FieldDef) *twin {
	t.Helper()
	q := &twin{t, made(t, d), modelOf(d)}
	q.holds("New")
	return q
}

// copied answers a copy of both.
func (q *twin) copied() *twin { return &twin{q.t, q.f.Copy(), q.m.copied()} }

// holds fails the test unless both stand the same.
func (q *twin) holds(name string) {
	q.t.Helper()
	if got, want := look(q.f), q.m.state(); !got.same(want) {
		q.t.Fatalf("%s, of field %v: it has %v, want %v", name, q.m.def, got, want)
	}
}

func (q *twin) latch(ins ...uint32) api.Errno {
	q.t.Helper()
	err, want := q.f.Latch(ins), q.m.latch(ins)
	if err != want {
		q.t.Fatalf("Latch(%v) of %v tells %d, want %d", ins, q.m.def, err, want)
	}
	q.holds("Latch")
	return err
}

func (q *twin) in(part, n int) api.Errno {
	q.t.Helper()
	got, err := q.f.In(part, n)
	if want, wantErr := q.m.in(part, n); got != want || err != wantErr {
		q.t.Fatalf("In(%d, %d) of %v tells %d, %d; want %d, %d", part, n, q.m.def, got, err, want, wantErr)
	}
	q.holds("In")
	return err
}

func (q *twin) out(part, n int, x uint32) api.Errno {
	q.t.Helper()
	err, want := q.f.Out(part, n, x), q.m.out(part, n, x)
	if err != want {
		q.t.Fatalf("Out(%d, %d, %d) of %v tells %d, want %d", part, n, x, q.m.def, err, want)
	}
	q.holds("Out")
	return err
}

func (q *twin) commit(ok bool) {
	q.t.Helper()
	q.f.Commit(ok)
	q.m.commit(ok)
	q.holds("Commit")
}

// full answers a field with input words, with output words of which one is its safe state, and with two words put out.
func full(t *testing.T) *twin {
	t.Helper()
	q := twinOf(t, def(3, words(100, 101, 102, 103), 2, 0, 2, 7))
	q.latch(1, 2, 3)
	q.out(2, 0, 10)
	q.out(2, 1, 11)
	q.out(2, 2, 12)
	q.commit(true)
	q.latch(4, 5, 6)
	q.out(2, 1, 21)
	q.out(2, 3, 23)
	return q
}

// outs fails the test unless these are the output words.
func (q *twin) outs(name string, want ...uint32) {
	q.t.Helper()
	if got := q.f.Outs(); !slices.Equal(got, want) {
		q.t.Errorf("%s: the output words are %v, want %v", name, got, want)
	}
}

// P8.1 to P8.3: the chapter's table.
func TestExamples(t *testing.T) {
	f := made(t, def(2, words(9, 8), 1, 0))
	errs := func(name string, got, want api.Errno) {
		t.Helper()
		if got != want {
			t.Errorf("%s tells %d, want %d", name, got, want)
		}
	}
	outs := func(want ...uint32) {
		t.Helper()
		if got := f.Outs(); !slices.Equal(got, want) {
			t.Errorf("Outs tells %v, want %v", got, want)
		}
	}
	outs(9, 8)
	errs("Latch(5 6)", f.Latch(words(5, 6)), api.OK)
	x, err := f.In(0, 1)
	errs("In(0, 1)", err, api.OK)
	if x != 6 {
		t.Errorf("In(0, 1) tells %d, want 6", x)
	}
	_, err = f.In(1, 1)
	errs("In(1, 1)", err, api.ErrRights)
	_, err = f.In(0, 2)
	errs("In(0, 2)", err, api.ErrRange)
	errs("Out(1, 0, 3)", f.Out(1, 0, 3), api.OK)
	outs(9, 8)
	f.Commit(true)
	outs(3, 8)
	errs("Out(1, 0, 4)", f.Out(1, 0, 4), api.OK)
	f.Commit(false)
	outs(9, 8)
	errs("Out(0, 0, 1)", f.Out(0, 0, 1), api.ErrRights)
	errs("Latch(1)", f.Latch(words(1)), api.ErrArg)
}

// checks fails the test unless Check and New tell that of the definition, and New tells a field just beside OK.
func checks(t *testing.T, d api.FieldDef, want api.Errno) {
	t.Helper()
	if err := field.Check(d); err != want {
		t.Errorf("Check(%v) tells %d, want %d", d, err, want)
	}
	f, err := field.New(d)
	if err != want || (f != nil) != (want == api.OK) {
		t.Errorf("New(%v) tells %v, %d; want %d", d, f, err, want)
	}
}

// P8.1: the edges of each part of a definition, where the others may be.
func TestCheck(t *testing.T) {
	rows := []struct {
		name string
		d    api.FieldDef
		want api.Errno
	}{
		{"0 input words", def(0, words(1), 3, 4), api.OK},
		{"1 input word", def(1, words(1), 3, 4), api.OK},
		{"16 input words", def(16, words(1), 3, 4), api.OK},
		{"17 input words", def(17, words(1), 3, 4), api.ErrArg},
		{"-1 input words", def(-1, words(1), 3, 4), api.ErrArg},
		{"2^32 + 1 input words", def(1<<32+1, words(1), 3, 4), api.ErrArg},
		{"the fewest input words", def(math.MinInt, words(1), 3, 4), api.ErrArg},
		{"the most input words", def(math.MaxInt, words(1), 3, 4), api.ErrArg},

		{"no list of safe words", def(2, nil, 3, 4), api.OK},
		{"no safe words", def(2, words(), 3, 4), api.OK},
		{"1 safe word", def(2, words(most), 3, 4), api.OK},
		{"16 safe words", def(2, rising(16, most-7), 3, 4), api.OK},
		{"17 safe words", def(2, rising(17, 0), 3, 4), api.ErrArg},
		{"2^16 safe words", def(2, make([]uint32, 1<<16), 3, 4), api.ErrArg},

		{"no readers", api.FieldDef{Ins: 2, Writer: 3, Readers: 0}, api.OK},
		{"reader 0", def(2, words(1), 3, 0), api.OK},
		{"reader 7", def(2, words(1), 3, 7), api.OK},
		{"all readers", api.FieldDef{Ins: 2, Writer: 3, Readers: 255}, api.OK},
		{"reader 8", api.FieldDef{Ins: 2, Writer: 3, Readers: 256}, api.ErrArg},
		{"readers 0 and 8", api.FieldDef{Ins: 2, Writer: 3, Readers: 257}, api.ErrArg},
		{"reader 31", api.FieldDef{Ins: 2, Writer: 3, Readers: 1 << 31}, api.ErrArg},
		{"the greatest number of readers", api.FieldDef{Ins: 2, Writer: 3, Readers: most}, api.ErrArg},
		{"the writer a reader, alone", def(2, words(1), 3, 3), api.OK},

		{"writer 0", def(2, words(1), 0, 4), api.OK},
		{"writer 7", def(2, words(1), 7, 4), api.OK},
		{"writer 8", def(2, words(1), 8, 4), api.ErrArg},
		{"writer 32", def(2, words(1), 32, 4), api.ErrArg},
		{"writer 2^32", def(2, words(1), 1<<32, 4), api.ErrArg},
		{"writer -1", def(2, words(1), -1, 4), api.ErrArg},
		{"the lowest writer", def(2, words(1), math.MinInt, 4), api.ErrArg},
		{"the greatest writer", def(2, words(1), math.MaxInt, 4), api.ErrArg},

		{"nothing is told", api.FieldDef{}, api.OK},
		{"all is the most", api.FieldDef{Ins: 16, Safe: rising(16, 0), Readers: 255, Writer: 7}, api.OK},
		{"all is one past the most", api.FieldDef{Ins: 17, Safe: rising(17, 0), Readers: 256, Writer: 8}, api.ErrArg},
	}
	for _, row := range rows {
		t.Run(row.name, func(t *testing.T) { checks(t, row.d, row.want) })
	}
}

// P8.1: all definitions about the bounds, as the words say it.
func TestCheckByTheWords(t *testing.T) {
	for ins := -2; ins < 20; ins++ {
		for safe := range 20 {
			for writer := -2; writer < 11; writer++ {
				for _, readers := range []uint32{0, 1, 128, 254, 255, 256, 257, 511, 512, 1 << 16, most} {
					d := api.FieldDef{Ins: ins, Safe: make([]uint32, safe), Readers: readers, Writer: writer}
					want := api.ErrArg
					if ins >= 0 && ins <= 16 && safe <= 16 && readers < 256 && writer >= 0 && writer <= 7 {
						want = api.OK
					}
					checks(t, d, want)
				}
			}
		}
	}
}

// P8.1: at first input words are 0 and output words their safe state, as many as told; and a Commit finds nothing put out.
func TestAtFirst(t *testing.T) {
	for ins := range 17 {
		for outs := range 17 {
			safe := rising(outs, most-3)
			f := made(t, def(ins, safe, 5, 1))
			if want := (state{make([]uint32, ins), safe, safe, safe}); !look(f).same(want) {
				t.Errorf("with %d inputs and %d outputs a field is at first %v, want %v", ins, outs, look(f), want)
			}
		}
	}
}

// P8.1, R5: a field that New made later stands as at first, and has nothing in common with an earlier one.
func TestNewAgain(t *testing.T) {
	first := full(t)
	second := twinOf(t, first.m.def)
	second.latch(7, 8, 9)
	second.out(2, 0, 90)
	second.commit(true)
	first.holds("calls of another one")
}

// changes are calls that change what full made, each in another way.
func changes() []func(q *twin) {
	return []func(q *twin){
		func(q *twin) { q.latch(4, 5, 7) },
		func(q *twin) { q.latch(4, 5, 6) },
		func(q *twin) { q.out(2, 0, 5) },
		func(q *twin) { q.out(2, 1, 5) },
		func(q *twin) { q.commit(true) },
		func(q *twin) { q.commit(false) },
	}
}

// P8.1: a copy has the same input words, output words and words put out; neither of the two, nor a copy of the copy, changes with the others.
func TestCopy(t *testing.T) {
	for _, change := range changes() {
		first := full(t)
		second := first.copied()
		third := second.copied()
		second.holds("Copy")
		third.holds("Copy of a copy")
		for _, q := range []*twin{first, third, second} {
			before := look(q.f)
			change(q)
			if look(q.f).same(before) {
				t.Fatal("the call changes nothing")
			}
			first.holds("a change of one, the first")
			second.holds("a change of one, the copy")
			third.holds("a change of one, the copy's copy")
		}
	}
}

// P8.1: a copy goes on as what it was copied of.
func TestCopyGoesOn(t *testing.T) {
	first := full(t)
	second := first.copied()
	for _, change := range changes() {
		change(first)
		change(second)
		if !look(first.f).same(look(second.f)) {
			t.Fatal("a copy goes on otherwise")
		}
	}
}

// P8.2: Latch of as many words as there are inputs, and of others, for each number of inputs; and where it answers an error the words, and what was put out, stay.
func TestLatch(t *testing.T) {
	for ins := range 17 {
		for _, count := range []int{0, 1, ins - 1, ins, ins + 1, 16, 17, 32, 300} {
			if count < 0 {
				continue
			}
			q := twinOf(t, def(ins, words(1, 2), 0, 0))
			q.latch(rising(ins, 50)...)
			q.out(0, 1, 5)
			want := state{rising(ins, 70), words(1, 2), words(1, 2), words(1, 2)}
			wantErr := api.OK
			if count != ins {
				want, wantErr = state{rising(ins, 50), words(1, 2), words(1, 5), words(1, 2)}, api.ErrArg
			}
			if err := q.latch(rising(count, 70)...); err != wantErr {
				t.Errorf("Latch of %d words tells %d, where there are %d inputs", count, err, ins)
			}
			if got := look(q.f); !got.same(want) {
				t.Errorf("behind Latch of %d words, where there are %d inputs, there is %v, want %v", count, ins, got, want)
			}
		}
	}
}

// P8.2: Latch of no list: as of an empty one.
func TestLatchOfNone(t *testing.T) {
	none, some := made(t, def(0, words(4), 1, 0)), made(t, def(1, words(4), 1, 0))
	none.Out(1, 0, 5)
	some.Out(1, 0, 5)
	if err := none.Latch(nil); err != api.OK || look(none).next[0] != 4 {
		t.Errorf("Latch of nil, where there are no inputs, tells %d, and leaves %v", err, look(none))
	}
	if err := some.Latch(nil); err != api.ErrArg || look(some).next[0] != 5 {
		t.Errorf("Latch of nil, where there is an input, tells %d, and leaves %v", err, look(some))
	}
}

// P8.2: In by whatever partition: each reader alone; the writer only if it is one.
func TestWhoReads(t *testing.T) {
	for _, d := range []api.FieldDef{
		def(2, words(1), 1, 0, 2), def(2, words(1), 0), def(2, words(1), 7), def(2, words(1), 0, 7), def(2, words(1), 7, 0), def(2, words(1), 3, 3),
		def(2, words(1), 3, 0, 1, 2, 4, 5, 6, 7), def(2, words(1), 0, 0, 1, 2, 3, 4, 5, 6, 7), def(2, nil, 6, 5), def(2, nil, 5, 6, 7),
	} {
		q := twinOf(t, d)
		q.latch(70, 77)
		for _, part := range sample.Edges() {
			x, err := q.f.In(part, 1)
			if sample.InSet(d.Readers, part) && (x != 77 || err != api.OK) || !sample.InSet(d.Readers, part) && (x != 0 || err != api.ErrRights) {
				t.Errorf("In by %d of %v tells %d, %d", part, d, x, err)
			}
			q.in(part, 1)
		}
	}
}

// P8.2: the input words and no others, by each reader.
func TestWhatIsRead(t *testing.T) {
	for ins := range 17 {
		q := twinOf(t, def(ins, rising(16, 0), 1, 0, 1, 2, 3, 4, 5, 6, 7))
		q.latch(rising(ins, 1000)...)
		for _, n := range sample.Edges() {
			want, x := api.ErrRange, uint32(0)
			if n >= 0 && n < ins {
				want, x = api.OK, uint32(1000+n)
			}
			for part := range 8 {
				if got, err := q.f.In(part, n); got != x || err != want {
					t.Errorf("In(%d, %d) of %d words tells %d, %d; want %d, %d", part, n, ins, got, err, x, want)
				}
			}
		}
		q.holds("In")
	}
}

// P8.3: Out by whatever partition: the writer alone, though others read; what is let to nobody changes nothing.
func TestWhoWrites(t *testing.T) {
	for _, d := range []api.FieldDef{
		def(2, words(1, 2), 1, 0, 2), def(2, words(1, 2), 0), def(0, words(1, 2), 7), def(2, words(1, 2), 3, 0, 1, 2, 3, 4, 5, 6, 7), def(2, words(1, 2), 7, 7), def(2, words(1, 2), 0, 0),
	} {
		for _, part := range sample.Edges() {
			q := twinOf(t, d)
			want, outs := api.ErrRights, words(1, 2)
			if part == d.Writer {
				want, outs = api.OK, words(1, 5)
			}
			if err := q.out(part, 1, 5); err != want {
				t.Errorf("Out by %d of %v tells %d, want %d", part, d, err, want)
			}
			q.commit(true)
			q.outs("behind a Commit of what one put out who may or may not", outs...)
		}
	}
}

// P8.3: the output words and no others, by the writer.
func TestWhatIsWritten(t *testing.T) {
	for outs := range 17 {
		for _, n := range sample.Edges() {
			q := twinOf(t, def(16, rising(outs, 200), 1, 0))
			want, wantErr := rising(outs, 200), api.ErrRange
			if n >= 0 && n < outs {
				want[n], wantErr = 5, api.OK
			}
			if err := q.out(1, n, 5); err != wantErr {
				t.Errorf("Out(1, %d, 5) of %d words tells %d, want %d", n, outs, err, wantErr)
			}
			q.commit(true)
			q.outs("one word put out", want...)
		}
	}
}

// P8.3: what is put out is told by no call ahead of the Commit, and by Outs behind it.
func TestOutIsNotToldAtOnce(t *testing.T) {
	q := twinOf(t, def(2, words(9, 8), 1, 0, 1))
	q.latch(1, 2)
	q.out(1, 0, 3)
	q.outs("put out", 9, 8)
	if x, err := q.f.In(1, 0); x != 1 || err != api.OK || !slices.Equal(q.f.Ins(), words(1, 2)) {
		t.Errorf("a word put out is seen at the inputs: In tells %d, %d, Ins %v", x, err, q.f.Ins())
	}
	q.commit(true)
	q.outs("committed", 3, 8)
	q.out(1, 0, 4)
	q.out(1, 1, 5)
	q.outs("put out behind a Commit", 3, 8)
	q.commit(true)
	q.outs("committed again", 4, 5)
}

// P8.3, P8.4: of what is put out twice the last counts, whatever words they are, also where it is the safe state, or what stood there.
func TestOutTwice(t *testing.T) {
	edge := words(0, 1, 8, 9, 1<<31, most-1, most)
	for _, first := range edge {
		for _, last := range edge {
			q := twinOf(t, def(0, words(9, 0, most), 1))
			for n := range 3 {
				q.out(1, n, first)
				q.out(1, n, last)
			}
			q.commit(true)
			q.outs("put out twice", last, last, last)
			q.out(1, 1, first)
			q.out(1, 0, last)
			q.out(1, 1, last)
			q.commit(true)
			q.outs("put out twice, another one between", last, last, most)
		}
	}
}

// P8.2: a Latch makes what was put out ahead of it count for nothing, leaves the output words, and lets words be put out behind it.
func TestLatchAboutOut(t *testing.T) {
	q := twinOf(t, def(1, words(9, 8, 7), 1, 0))
	q.out(1, 0, 3)
	q.out(1, 1, 4)
	q.commit(true)
	q.out(1, 0, 5)
	q.out(1, 2, 6)
	q.latch(1)
	q.outs("Latch", 3, 4, 7)
	q.out(1, 1, 2)
	q.outs("put out behind a Latch", 3, 4, 7)
	q.commit(true)
	q.outs("put out ahead of a Latch, and behind it", 9, 2, 7)
	q.out(1, 0, 3)
	q.latch(1)
	q.commit(true)
	q.outs("put out ahead of a Latch alone", 9, 8, 7)
}

// P8.3: Commit of either kind where any of the output words were put out, behind whatever words: those that were not take their safe state, not what they were.
func TestCommit(t *testing.T) {
	safe := words(9, 0, most, 7)
	for _, ok := range []bool{true, false} {
		for before := range 1 << 4 {
			for set := range 1 << 4 {
				q := twinOf(t, def(0, safe, 1, 0))
				for n := range 4 {
					if before>>n&1 == 1 {
						q.out(1, n, uint32(30+n))
					}
				}
				q.commit(true)
				want := slices.Clone(safe)
				for n := range 4 {
					if set>>n&1 == 0 {
						continue
					}
					q.out(1, n, uint32(40+n))
					if ok {
						want[n] = uint32(40 + n)
					}
				}
				q.commit(ok)
				q.outs("Commit", want...)
				q.commit(true)
				q.outs("a second Commit with nothing put out", safe...)
			}
		}
	}
}

// P8.3: what was put out ahead of a Commit, of either kind, counts for nothing behind it.
func TestCommitIsTheEnd(t *testing.T) {
	for _, first := range []bool{true, false} {
		for _, second := range []bool{true, false} {
			q := twinOf(t, def(1, words(9, 8), 1, 0))
			q.out(1, 0, 3)
			q.out(1, 1, 4)
			q.commit(first)
			q.commit(second)
			q.outs("two Commits", 9, 8)
			q.out(1, 0, 3)
			q.commit(first)
			q.out(1, 1, 5)
			q.commit(true)
			q.outs("a Commit behind one", 9, 5)
		}
	}
}

// P8.3: a word put out that is its safe state, and words of 0 and the greatest: they are what was put out, whatever stood there.
func TestEdgeWords(t *testing.T) {
	for _, x := range words(0, 1, 1<<31, most) {
		q := twinOf(t, def(2, words(0, most), 1, 0))
		q.latch(x, most-x)
		if got := q.f.Ins(); !slices.Equal(got, words(x, most-x)) {
			t.Errorf("Ins tells %v, where %d was latched", got, x)
		}
		q.out(1, 0, 77)
		q.out(1, 1, 78)
		q.commit(true)
		q.out(1, 0, x)
		q.out(1, 1, most-x)
		q.commit(true)
		q.outs("words at the edges", x, most-x)
		q.out(1, 0, 0)
		q.out(1, 1, most)
		q.commit(true)
		q.outs("words put out that are their safe state", 0, most)
	}
}

// P8.1: a field without inputs, and without outputs, lets nothing be read and written, and ends frames.
func TestNoWords(t *testing.T) {
	q := twinOf(t, api.FieldDef{Readers: 255})
	for _, n := range sample.Edges() {
		if q.in(0, n) != api.ErrRange || q.out(0, n, 1) != api.ErrRange || q.in(8, n) != api.ErrRights || q.out(1, n, 1) != api.ErrRights {
			t.Errorf("a word of number %d is there", n)
		}
	}
	q.latch()
	q.commit(true)
	q.commit(false)
	q.copied().holds("Copy")
}

// P8.1 to P8.3, R4: of nil, whatever is asked.
func TestNil(t *testing.T) {
	var f *field.Field
	f.Commit(true)
	f.Commit(false)
	if f.Copy() != nil || len(f.Ins()) != 0 || len(f.Outs()) != 0 {
		t.Errorf("nil has words %v and %v, or a copy", f.Ins(), f.Outs())
	}
	for count := range 18 {
		if err := f.Latch(make([]uint32, count)); err != api.ErrNil {
			t.Errorf("Latch of %d words of nil tells %d", count, err)
		}
	}
	for _, part := range sample.Edges() {
		for _, n := range sample.Edges() {
			if x, err := f.In(part, n); x != 0 || err != api.ErrNil {
				t.Errorf("In(%d, %d) of nil tells %d, %d", part, n, x, err)
			}
			if err := f.Out(part, n, 1); err != api.ErrNil {
				t.Errorf("Out(%d, %d) of nil tells %d", part, n, err)
			}
		}
	}
}

// R2: of several errors the first one, of whatever partitions and words; beside it nothing is told, and nothing is changed.
func TestWhichErrorIsFirst(t *testing.T) {
	rows := []struct {
		name     string
		part, n  int
		in, outs api.Errno
	}{
		{"a reader, a word", 0, 1, api.OK, api.ErrRights},
		{"the writer, a word", 1, 1, api.ErrRights, api.OK},
		{"a reader, no word", 0, 2, api.ErrRange, api.ErrRights},
		{"the writer, no word", 1, 2, api.ErrRights, api.ErrRange},
		{"a reader, a word below 0", 0, -1, api.ErrRange, api.ErrRights},
		{"the writer, a word below 0", 1, -1, api.ErrRights, api.ErrRange},
		{"another one, a word", 2, 1, api.ErrRights, api.ErrRights},
		{"another one, no word", 2, 2, api.ErrRights, api.ErrRights},
		{"below 0, below 0", -1, -1, api.ErrRights, api.ErrRights},
		{"huge, huge", math.MaxInt, math.MaxInt, api.ErrRights, api.ErrRights},
	}
	for _, row := range rows {
		q := twinOf(t, def(2, words(9, 8), 1, 0))
		q.latch(5, 6)
		if in, out := q.in(row.part, row.n), q.out(row.part, row.n, 7); in != row.in || out != row.outs {
			t.Errorf("%s: In and Out tell %d, %d; want %d, %d", row.name, in, out, row.in, row.outs)
		}
	}
	q := full(t)
	for _, part := range sample.Edges() {
		for _, n := range sample.Edges() {
			q.in(part, n)
			q.out(part, n, uint32(n)+90)
		}
	}
}

// R3: the words that Latch was given, and the safe words that New was given, are not changed, and, changed afterwards, change nothing.
func TestWordsGoByThemselves(t *testing.T) {
	safe, ins := words(9, 8, 7), words(5, 6)
	d := def(2, safe, 1, 0)
	q := &twin{t, made(t, d), modelOf(d)}
	field.Check(d)
	q.m.latch(ins)
	q.f.Latch(ins)
	q.holds("Latch")
	q.out(1, 0, 3)
	q.commit(true)
	q.out(1, 1, 4)
	q.commit(false)
	q.in(0, 1)
	if !slices.Equal(safe, words(9, 8, 7)) || !slices.Equal(ins, words(5, 6)) {
		t.Fatalf("what was handed in is changed: %v, %v", safe, ins)
	}
	safe[0], safe[1], ins[0], ins[1] = 90, 80, 50, 60
	q.holds("words that were handed in, changed")
	q.commit(true)
	q.commit(false)
	q.in(0, 0)
}

// R3: lists that Ins and Outs told, changed afterwards, change nothing; nor do later calls change them.
func TestAnswersGoByThemselves(t *testing.T) {
	q := full(t)
	ins, outs := q.f.Ins(), q.f.Outs()
	q.latch(7, 8, 9)
	q.out(2, 0, 50)
	q.commit(true)
	if !slices.Equal(ins, words(4, 5, 6)) || !slices.Equal(outs, words(10, 11, 12, 103)) {
		t.Errorf("what Ins and Outs told is changed later: %v, %v", ins, outs)
	}
	ins, outs = q.f.Ins(), q.f.Outs()
	for n := range ins {
		ins[n] += 1000
	}
	for n := range outs {
		outs[n] += 1000
	}
	// What is behind an answer's end is no more the field's than what it tells.
	_, _ = append(ins, 99, 99), append(outs, 99, 99)
	q.holds("lists that Ins and Outs told, changed")
}

// someDef answers a definition that may be.
func someDef(row *sample.Row) api.FieldDef {
	d := def(row.Below(5), rising(row.Below(5), uint32(row.Next())), row.Below(4))
	if row.Below(8) == 0 {
		d.Ins = 16
	}
	d.Readers = uint32(row.Below(256))
	return d
}

// The kinds of calls that a log has.
const (
	logLatch = iota
	logOut
	logCommit
)

// entry is a call that did something: of input words, of an output word and a number, or of whether all went well, as its kind is.
type entry struct {
	kind int
	ins  []uint32
	n    int
	x    uint32
	ok   bool
}

// insBy tells the input words from the log alone: those of the last Latch.
func insBy(log []entry, d api.FieldDef) []uint32 {
	for _, e := range slices.Backward(log) {
		if e.kind == logLatch {
			return e.ins
		}
	}
	return make([]uint32, d.Ins)
}

// outBy tells an output word from the log alone: of the last Commit, if ok, the last that was put out behind the Latch or Commit ahead of it.
func outBy(log []entry, safe uint32, n int) uint32 {
	end := len(log) - 1
	for end >= 0 && log[end].kind != logCommit {
		end--
	}
	if end < 0 || !log[end].ok {
		return safe
	}
	for _, e := range slices.Backward(log[:end]) {
		switch {
		case e.kind != logOut:
			return safe
		case e.n == n:
			return e.x
		}
	}
	return safe
}

// some makes some call of both, and tells which one it was, and whether it did something.
func (q *twin) some(row *sample.Row, told map[api.Errno]int) (entry, bool) {
	q.t.Helper()
	part, n := row.About(4), row.About(5)
	if row.Below(3) > 0 {
		part, n = q.m.def.Writer, row.About(len(q.m.def.Safe))
	}
	e := entry{kind: logCommit, n: n, x: uint32(row.Next()), ok: row.Below(4) > 0}
	switch row.Below(8) {
	case 0:
		e.kind, e.ins = logLatch, rising(max(q.m.def.Ins+row.Below(4)%3-row.Below(4)%2, 0), e.x)
		err := q.latch(e.ins...)
		told[err]++
		return e, err == api.OK
	case 1:
		q.commit(e.ok)
		return e, true
	case 2:
		told[q.in(row.Below(9), row.About(q.m.def.Ins))]++
		return e, false
	}
	e.kind = logOut
	err := q.out(part, n, e.x)
	told[err]++
	return e, err == api.OK
}

// P8.4, P8.2, P8.3, R2: any calls, one behind the other: as the words say it, and as a log of the calls that did something tells it; input words change by a Latch alone, output words by a Commit alone.
func TestAnyCalls(t *testing.T) {
	row := sample.From(8)
	told := map[api.Errno]int{}
	moved := 0
	for range 200 {
		q := twinOf(t, someDef(row))
		var log []entry
		for range 150 {
			ins, outs := q.f.Ins(), q.f.Outs()
			e, did := q.some(row, told)
			if did {
				log = append(log, e)
			}
			if row.Below(20) == 0 {
				q = q.copied()
			}
			sameIns, sameOuts := slices.Equal(ins, q.f.Ins()), slices.Equal(outs, q.f.Outs())
			if !sameIns && (!did || e.kind != logLatch) || !sameOuts && e.kind != logCommit {
				t.Fatalf("%v changes %v and %v to %v and %v", e, ins, outs, q.f.Ins(), q.f.Outs())
			}
			if !sameOuts {
				moved++
			}
			if want := insBy(log, q.m.def); !slices.Equal(q.f.Ins(), want) {
				t.Fatalf("behind %v the input words are %v, want %v", log, q.f.Ins(), want)
			}
			for n, x := range q.f.Outs() {
				if want := outBy(log, q.m.def.Safe[n], n); x != want {
					t.Fatalf("behind %v output word %d is %d, want %d", log, n, x, want)
				}
			}
		}
	}
	for _, err := range []api.Errno{api.OK, api.ErrArg, api.ErrRights, api.ErrRange} {
		if told[err] < 500 {
			t.Errorf("%d was told only %d times", err, told[err])
		}
	}
	if moved < 1000 {
		t.Errorf("the output words changed only %d times", moved)
	}
}
