package port_test

import (
	"math"
	"slices"
	"testing"

	"tappet/api"
	"tappet/port"
	"tappet/sample"
)

// def is a short form: readers by their numbers.
func def(words, writer int, readers ...int) api.PortDef {
	d := api.PortDef{Words: words, Writer: writer}
	for _, part := range readers {
		d.Readers |= 1 << part
	}
	return d
}

// list is a short form.
func list(l ...api.PortDef) []api.PortDef { return l }

// state is all that a port has by the chapter's words.
type state struct {
	message []uint32
	age     uint32
	draft   []uint32
	sent    bool
}

func (s state) same(o state) bool {
	return slices.Equal(s.message, o.message) && s.age == o.age && slices.Equal(s.draft, o.draft) && s.sent == o.sent
}

// model is ports by the chapter's words, which looks at each word for itself.
type model struct {
	defs   []api.PortDef
	states []state
}

func modelOf(defs []api.PortDef) *model {
	m := &model{defs: slices.Clone(defs)}
	for _, d := range defs {
		m.states = append(m.states, state{make([]uint32, d.Words), 255, make([]uint32, d.Words), false})
	}
	return m
}

// copied answers another model that stands so.
func (m *model) copied() *model {
	other := &model{defs: m.defs}
	for _, s := range m.states {
		other.states = append(other.states, state{slices.Clone(s.message), s.age, slices.Clone(s.draft), s.sent})
	}
	return other
}

// lets tells what keeps the partition from reading the port, or from writing it.
func (m *model) lets(part, port int, toRead bool) api.Errno {
	if port < 0 || port > len(m.defs)-1 {
		return api.ErrNone
	}
	if d := m.defs[port]; part == d.Writer || toRead && sample.InSet(d.Readers, part) {
		return api.OK
	}
	return api.ErrRights
}

// letsWord likewise, of a word.
func (m *model) letsWord(part, port, word int, toRead bool) api.Errno {
	err := m.lets(part, port, toRead)
	if err == api.OK && (word < 0 || word > m.defs[port].Words-1) {
		return api.ErrRange
	}
	return err
}

func (m *model) read(part, port, word int) (uint32, api.Errno) {
	if err := m.letsWord(part, port, word, true); err != api.OK {
		return 0, err
	}
	return m.states[port].message[word], api.OK
}

func (m *model) age(part, port int) (uint32, api.Errno) {
	if err := m.lets(part, port, true); err != api.OK {
		return 0, err
	}
	return m.states[port].age, api.OK
}

func (m *model) put(part, port, word int, x uint32) api.Errno {
	err := m.letsWord(part, port, word, false)
	if err == api.OK {
		m.states[port].draft[word] = x
	}
	return err
}

func (m *model) send(part, port int) api.Errno {
	err := m.lets(part, port, false)
	if err == api.OK {
		m.states[port].sent = true
	}
	return err
}

func (m *model) commit() {
	for n := range m.states {
		s := &m.states[n]
		switch {
		case s.sent:
			s.message, s.age, s.sent = slices.Clone(s.draft), 0, false
		case s.age < 255:
			s.age++
		}
	}
}

func (m *model) unsend(part int) {
	for n, d := range m.defs {
		if d.Writer == part {
			m.states[n].sent = false
		}
	}
}

func (m *model) drop(part int) {
	m.unsend(part)
	for n, d := range m.defs {
		if d.Writer == part {
			m.states[n].draft = make([]uint32, d.Words)
		}
	}
}

// made answers ports of these definitions.
func made(t *testing.T, defs ...api.PortDef) *port.Ports {
	t.Helper()
	p, err := port.New(defs)
	if err != api.OK || p == nil {
		t.Fatalf("New(%v) tells %v, %d", defs, p, err)
	}
	return p
}

// look tells all that these ports have: what their calls do not tell at once is told by copies of them.
func look(t *testing.T, p *port.Ports, defs []api.PortDef) []state {
	t.Helper()
	later, sent := p.Copy(), p.Copy()
	for n, d := range defs {
		if err := sent.Send(d.Writer, n); err != api.OK {
			t.Fatalf("Send of port %d by its writer tells %d", n, err)
		}
	}
	later.Commit()
	sent.Commit()
	var out []state
	for n := range defs {
		var s state
		s.message, s.age = p.Message(n)
		s.draft, _ = sent.Message(n)
		// What was not sent is a frame old at least.
		_, age := later.Message(n)
		s.sent = age == 0
		out = append(out, s)
	}
	return out
}

// twin is ports and their model, each call of which is made of both.
type twin struct {
	t *testing.T
	p *port.Ports
	m *model
}

func twinOf(t *testing.T, defs ...api.PortDef) *twin {
	t.Helper()
	q := &twin{t, made(t, defs...), modelOf(defs)}
	q.holds("New")
	return q
}

// copied answers a copy of both.
func (q *twin) copied() *twin { return &twin{q.t, q.p.Copy(), q.m.copied()} }

// holds fails the test unless both stand the same.
func (q *twin) holds(name string) {
	q.t.Helper()
	if got := look(q.t, q.p, q.m.defs); !slices.EqualFunc(got, q.m.states, state.same) {
		q.t.Fatalf("%s, of ports %v: they have %v, want %v", name, q.m.defs, got, q.m.states)
	}
}

// same fails the test unless both answered the same, and stand the same behind it.
func (q *twin) same(name string, part, port, word int, got, want uint32, err, wantErr api.Errno) api.Errno {
	q.t.Helper()
	if got != want || err != wantErr {
		q.t.Fatalf("%s(%d, %d, %d) of %v tells %d and %d, want %d and %d", name, part, port, word, q.m.defs, got, err, want, wantErr)
	}
	q.holds(name)
	return err
}

func (q *twin) read(part, port, word int) api.Errno {
	q.t.Helper()
	got, err := q.p.Read(part, port, word)
	want, wantErr := q.m.read(part, port, word)
	return q.same("Read", part, port, word, got, want, err, wantErr)
}

func (q *twin) age(part, port int) api.Errno {
	q.t.Helper()
	got, err := q.p.Age(part, port)
	want, wantErr := q.m.age(part, port)
	return q.same("Age", part, port, 0, got, want, err, wantErr)
}

func (q *twin) put(part, port, word int, x uint32) api.Errno {
	q.t.Helper()
	return q.same("Put", part, port, word, 0, 0, q.p.Put(part, port, word, x), q.m.put(part, port, word, x))
}

func (q *twin) send(part, port int) api.Errno {
	q.t.Helper()
	return q.same("Send", part, port, 0, 0, 0, q.p.Send(part, port), q.m.send(part, port))
}

func (q *twin) commit() {
	q.t.Helper()
	q.p.Commit()
	q.m.commit()
	q.holds("Commit")
}

func (q *twin) unsend(part int) {
	q.t.Helper()
	q.p.Unsend(part)
	q.m.unsend(part)
	q.holds("Unsend")
}

func (q *twin) drop(part int) {
	q.t.Helper()
	q.p.Drop(part)
	q.m.drop(part)
	q.holds("Drop")
}

// full answers some ports, each with a message, another draft, and an age of its own; those of even numbers have sent it.
func full(t *testing.T) *twin {
	t.Helper()
	q := twinOf(t, def(2, 1, 0, 2), def(16, 0, 7), def(1, 7), def(3, 1, 0, 2, 3, 4, 5, 6, 7), def(2, 4, 1))
	for n, d := range q.m.defs {
		for word := range d.Words {
			q.put(d.Writer, n, word, uint32(100*n+word+1))
		}
		q.send(d.Writer, n)
		q.commit()
	}
	for n, d := range q.m.defs {
		for word := range d.Words {
			q.put(d.Writer, n, word, uint32(10000+100*n+word))
		}
		if n%2 == 0 {
			q.send(d.Writer, n)
		}
	}
	return q
}

// P7.2 to P7.4: the chapter's table.
func TestExamples(t *testing.T) {
	p := made(t, def(2, 1, 0, 2))
	read := func(part, number, word int, want uint32, wantErr api.Errno) {
		t.Helper()
		if x, err := p.Read(part, number, word); x != want || err != wantErr {
			t.Errorf("Read(%d, %d, %d) tells %d, %d; want %d, %d", part, number, word, x, err, want, wantErr)
		}
	}
	age := func(part, number int, want uint32) {
		t.Helper()
		if x, err := p.Age(part, number); x != want || err != api.OK {
			t.Errorf("Age(%d, %d) tells %d, %d; want %d", part, number, x, err, want)
		}
	}
	if err := p.Put(1, 0, 1, 7); err != api.OK {
		t.Errorf("Put(1, 0, 1, 7) tells %d", err)
	}
	if err := p.Send(1, 0); err != api.OK {
		t.Errorf("Send(1, 0) tells %d", err)
	}
	read(2, 0, 1, 0, api.OK)
	age(2, 0, 255)
	p.Commit()
	read(2, 0, 1, 7, api.OK)
	age(0, 0, 0)
	p.Commit()
	age(0, 0, 1)
	if err := p.Put(0, 0, 0, 1); err != api.ErrRights {
		t.Errorf("Put(0, 0, 0, 1) tells %d", err)
	}
	read(3, 0, 0, 0, api.ErrRights)
	read(2, 0, 2, 0, api.ErrRange)
	read(2, 1, 0, 0, api.ErrNone)
}

// checks fails the test unless Check and New tell that of the definitions, and New tells ports just beside OK.
func checks(t *testing.T, l []api.PortDef, want api.Errno) {
	t.Helper()
	if err := port.Check(l); err != want {
		t.Errorf("Check(%v) tells %d, want %d", l, err, want)
	}
	p, err := port.New(l)
	if err != want || (p != nil) != (want == api.OK) {
		t.Errorf("New(%v) tells %v, %d; want %d", l, p, err, want)
	}
}

// P7.1: the edges of one definition, alone and as each one of several.
func TestCheck(t *testing.T) {
	const all = 255
	rows := []struct {
		name string
		d    api.PortDef
		want api.Errno
	}{
		{"0 words", def(0, 1, 0), api.ErrArg},
		{"1 word", def(1, 1, 0), api.OK},
		{"2 words", def(2, 1, 0), api.OK},
		{"16 words", def(16, 1, 0), api.OK},
		{"17 words", def(17, 1, 0), api.ErrArg},
		{"-1 words", def(-1, 1, 0), api.ErrArg},
		{"256 words", def(256, 1, 0), api.ErrArg},
		{"2^32 + 1 words", def(1<<32+1, 1, 0), api.ErrArg},
		{"the fewest words", def(math.MinInt, 1, 0), api.ErrArg},
		{"the most words", def(math.MaxInt, 1, 0), api.ErrArg},

		{"writer 0", def(4, 0, 1), api.OK},
		{"writer 7", def(4, 7, 1), api.OK},
		{"writer 8", def(4, 8, 1), api.ErrArg},
		{"writer 31", def(4, 31, 1), api.ErrArg},
		{"writer 32", def(4, 32, 1), api.ErrArg},
		{"writer 64", def(4, 64, 1), api.ErrArg},
		{"writer 2^32", def(4, 1<<32, 1), api.ErrArg},
		{"writer -1", def(4, -1, 1), api.ErrArg},
		{"the lowest writer", def(4, math.MinInt, 1), api.ErrArg},
		{"the greatest writer", def(4, math.MaxInt, 1), api.ErrArg},

		{"no readers", api.PortDef{Words: 4, Writer: 3, Readers: 0}, api.OK},
		{"reader 0", def(4, 3, 0), api.OK},
		{"reader 7", def(4, 3, 7), api.OK},
		{"all readers but writer 0", api.PortDef{Words: 4, Writer: 0, Readers: all - 1}, api.OK},
		{"all readers but writer 3", api.PortDef{Words: 4, Writer: 3, Readers: all - 8}, api.OK},
		{"all readers but writer 7", api.PortDef{Words: 4, Writer: 7, Readers: all - 128}, api.OK},
		{"all readers, writer 0", api.PortDef{Words: 4, Writer: 0, Readers: all}, api.ErrArg},
		{"all readers, writer 7", api.PortDef{Words: 4, Writer: 7, Readers: all}, api.ErrArg},
		{"reader 8", api.PortDef{Words: 4, Writer: 3, Readers: 256}, api.ErrArg},
		{"reader 31", api.PortDef{Words: 4, Writer: 3, Readers: 1 << 31}, api.ErrArg},
		{"the greatest number of readers", api.PortDef{Words: 4, Writer: 3, Readers: math.MaxUint32}, api.ErrArg},
		{"all bits but those of partitions", api.PortDef{Words: 4, Writer: 3, Readers: math.MaxUint32 - all}, api.ErrArg},

		{"the writer 0 alone a reader", def(4, 0, 0), api.ErrArg},
		{"the writer 7 alone a reader", def(4, 7, 7), api.ErrArg},
		{"the writer among readers", def(4, 3, 1, 3, 5), api.ErrArg},
		{"the writer next to readers", def(4, 3, 2, 4), api.OK},
		{"nothing is told", api.PortDef{}, api.ErrArg},
		{"all is amiss", def(0, 8, 3), api.ErrArg},
	}
	good := def(1, 0, 1)
	for _, row := range rows {
		t.Run(row.name, func(t *testing.T) {
			checks(t, list(row.d), row.want)
			checks(t, list(row.d, good, good), row.want)
			checks(t, list(good, row.d, good), row.want)
			checks(t, list(good, good, row.d), row.want)
			checks(t, append(slices.Repeat(list(good), 15), row.d), row.want)
		})
	}
}

// P7.1: all small definitions, as the words say it.
func TestCheckByTheWords(t *testing.T) {
	mayBe := func(d api.PortDef) bool {
		return d.Words >= 1 && d.Words <= 16 && d.Writer >= 0 && d.Writer <= 7 && d.Readers <= 255 && !sample.InSet(d.Readers, d.Writer)
	}
	for words := -2; words < 20; words++ {
		for writer := -2; writer < 12; writer++ {
			for readers := range uint32(520) {
				d := api.PortDef{Words: words, Writer: writer, Readers: readers}
				if got := port.Check(list(d)); (got == api.OK) != mayBe(d) || got != api.OK && got != api.ErrArg {
					t.Fatalf("Check(%v) tells %d", d, got)
				}
			}
		}
	}
}

// P7.1: how many definitions there may be; those behind the sixteenth are too many, whatever they are.
func TestHowMany(t *testing.T) {
	checks(t, nil, api.OK)
	checks(t, list(), api.OK)
	for count := range 40 {
		want := api.OK
		if count > 16 {
			want = api.ErrArg
		}
		checks(t, slices.Repeat(list(def(16, 7, 0, 1)), count), want)
	}
	checks(t, append(slices.Repeat(list(def(1, 0)), 16), api.PortDef{}), api.ErrArg)
	checks(t, slices.Repeat(list(def(1, 0)), 1<<16), api.ErrArg)
}

// P7.1: at first all words are 0, the age is 255 and nothing is sent, of each port; and there is no other port.
func TestAtFirst(t *testing.T) {
	var defs []api.PortDef
	for n := range 16 {
		defs = append(defs, def(n+1, n%8))
	}
	for count := range 17 {
		p := made(t, defs[:count]...)
		for n, s := range look(t, p, defs[:count]) {
			if want := (state{make([]uint32, n+1), 255, make([]uint32, n+1), false}); !s.same(want) {
				t.Errorf("of %d ports number %d is at first %v, want %v", count, n, s, want)
			}
		}
		for _, n := range sample.Edges() {
			message, age := p.Message(n)
			if there := n >= 0 && n < count; there && (len(message) != n+1 || age != 255) || !there && (len(message) != 0 || age != 0) {
				t.Errorf("of %d ports: Message(%d) tells %v, %d", count, n, message, age)
			}
		}
	}
}

// P7.1: a port that there is not has no message, also once the others have some.
func TestMessageOfNone(t *testing.T) {
	q := full(t)
	for _, n := range sample.Edges() {
		message, age := q.p.Message(n)
		switch {
		case n >= 0 && n < len(q.m.defs):
			if s := q.m.states[n]; !slices.Equal(message, s.message) || age != s.age {
				t.Errorf("Message(%d) tells %v, %d; want %v, %d", n, message, age, s.message, s.age)
			}
		case len(message) != 0 || age != 0:
			t.Errorf("Message(%d), where there is none, tells %v, %d", n, message, age)
		}
	}
	q.holds("Message")
}

// P7.1, R5: ports that New made later stand as at first, and have nothing in common with earlier ones.
func TestNewAgain(t *testing.T) {
	first := full(t)
	second := twinOf(t, first.m.defs...)
	second.put(1, 0, 0, 5)
	second.send(1, 3)
	second.commit()
	first.holds("calls of others")
}

// P7.1: no ports: none is there, and nothing is done.
func TestNoPorts(t *testing.T) {
	for _, p := range []*port.Ports{made(t), made(t).Copy()} {
		p.Commit()
		p.Unsend(0)
		p.Drop(0)
		for _, n := range sample.Edges() {
			if message, age := p.Message(n); len(message) != 0 || age != 0 {
				t.Errorf("Message(%d) tells %v, %d", n, message, age)
			}
			if x, err := p.Read(0, n, 0); x != 0 || err != api.ErrNone {
				t.Errorf("Read of port %d tells %d, %d", n, x, err)
			}
			if err := p.Send(0, n); err != api.ErrNone {
				t.Errorf("Send of port %d tells %d", n, err)
			}
		}
	}
}

// changes are calls that change what full made, each in another way.
func changes() []func(q *twin) {
	return []func(q *twin){
		func(q *twin) { q.put(1, 0, 1, 5) },
		func(q *twin) { q.put(0, 1, 15, 5) },
		func(q *twin) { q.send(1, 3) },
		func(q *twin) { q.commit() },
		func(q *twin) { q.unsend(1) },
		func(q *twin) { q.unsend(7) },
		func(q *twin) { q.drop(1) },
		func(q *twin) { q.drop(0) },
	}
}

// P7.1: a copy has the same messages, ages and drafts, and has sent the same; neither of the two, nor a copy of the copy, changes with the others.
func TestCopy(t *testing.T) {
	for _, change := range changes() {
		first := full(t)
		second := first.copied()
		third := second.copied()
		second.holds("Copy")
		third.holds("Copy of a copy")
		for _, q := range []*twin{first, third, second} {
			before := look(t, q.p, q.m.defs)
			change(q)
			if slices.EqualFunc(before, q.m.states, state.same) {
				t.Fatal("the call changes nothing")
			}
			first.holds("a change of one, the first")
			second.holds("a change of one, the copy")
			third.holds("a change of one, the copy's copy")
		}
		first.commit()
		first.commit()
		second.holds("Commit of the first, the copy")
		third.drop(1)
		second.holds("Drop of the copy's copy, the copy")
	}
}

// P7.1: a copy goes on as what it was copied of.
func TestCopyGoesOn(t *testing.T) {
	first := full(t)
	second := first.copied()
	for _, change := range changes() {
		change(first)
		change(second)
		if !slices.EqualFunc(first.m.states, look(t, second.p, second.m.defs), state.same) {
			t.Fatal("a copy goes on otherwise")
		}
	}
}

// P7.2: Read and Age by whatever partition: the writer and each reader alone.
func TestWhoReads(t *testing.T) {
	readers := []api.PortDef{
		def(2, 1, 0, 2), def(2, 0), def(2, 7), def(2, 0, 7), def(2, 7, 0), def(2, 3, 0, 1, 2, 4, 5, 6, 7), def(2, 0, 1, 2, 3, 4, 5, 6, 7), def(2, 6, 5), def(2, 5, 6),
	}
	for _, d := range readers {
		q := twinOf(t, d, def(2, 3))
		q.put(d.Writer, 0, 1, 77)
		q.send(d.Writer, 0)
		q.commit()
		for _, part := range sample.Edges() {
			want := api.ErrRights
			if part == d.Writer || sample.InSet(d.Readers, part) {
				want = api.OK
			}
			if err := q.read(part, 0, 1); err != want {
				t.Errorf("Read by %d of %v tells %d, want %d", part, d, err, want)
			}
			if err := q.age(part, 0); err != want {
				t.Errorf("Age by %d of %v tells %d, want %d", part, d, err, want)
			}
		}
	}
}

// P7.2: a port's words and no others, and ports that there are and no others, by those who may read.
func TestWhatIsRead(t *testing.T) {
	for words := 1; words <= 16; words++ {
		q := twinOf(t, def(16, 2, 1), def(words, 1, 0), def(16, 0, 1))
		for word := range words {
			q.put(1, 1, word, uint32(1000+word))
		}
		q.send(1, 1)
		q.commit()
		for _, n := range sample.Edges() {
			want, x := api.ErrRange, uint32(0)
			if n >= 0 && n < words {
				want, x = api.OK, uint32(1000+n)
			}
			for part := range 2 {
				if got, err := q.p.Read(part, 1, n); got != x || err != want {
					t.Errorf("Read(%d, 1, %d) of %d words tells %d, %d; want %d, %d", part, n, words, got, err, x, want)
				}
			}
			q.read(1, n, 0)
			q.age(1, n)
			if there := n >= 0 && n < 3; !there && q.read(1, n, 0) != api.ErrNone || !there && q.age(1, n) != api.ErrNone {
				t.Errorf("a port of number %d is read", n)
			}
		}
	}
}

// P7.3: Put and Send by whatever partition: the writer alone; what is let to nobody changes nothing.
func TestWhoWrites(t *testing.T) {
	for _, d := range []api.PortDef{def(2, 1, 0, 2), def(2, 0), def(2, 7), def(2, 3, 0, 1, 2, 4, 5, 6, 7), def(2, 0, 1, 2, 3, 4, 5, 6, 7)} {
		for _, part := range sample.Edges() {
			q := twinOf(t, d, def(2, 3))
			want := api.ErrRights
			if part == d.Writer {
				want = api.OK
			}
			if err := q.put(part, 0, 1, 5); err != want {
				t.Errorf("Put by %d of %v tells %d, want %d", part, d, err, want)
			}
			if err := q.send(part, 0); err != want {
				t.Errorf("Send by %d of %v tells %d, want %d", part, d, err, want)
			}
			q.commit()
			message, age := q.p.Message(0)
			if put := message[1] == 5 && age == 0; put != (want == api.OK) || message[0] != 0 {
				t.Errorf("behind Put and Send by %d of %v the message is %v, its age %d", part, d, message, age)
			}
		}
	}
}

// P7.3: a port's words and no others, and ports that there are and no others, by the writer.
func TestWhatIsWritten(t *testing.T) {
	for words := 1; words <= 16; words++ {
		q := twinOf(t, def(16, 1), def(words, 1, 0), def(16, 1))
		for _, n := range sample.Edges() {
			want := api.ErrRange
			if n >= 0 && n < words {
				want = api.OK
			}
			if err := q.put(1, 1, n, uint32(n+3)); err != want {
				t.Errorf("Put(1, 1, %d) of %d words tells %d, want %d", n, words, err, want)
			}
			q.put(1, n, 0, 9)
			q.send(1, n)
			if there := n >= 0 && n < 3; !there && q.put(1, n, 0, 9) != api.ErrNone || !there && q.send(1, n) != api.ErrNone {
				t.Errorf("a port of number %d is written", n)
			}
		}
	}
}

// P7.3: a word of the draft is the last that was put there, and is whatever number it is.
func TestPutTwice(t *testing.T) {
	q := twinOf(t, def(3, 2, 0))
	for _, x := range []uint32{1, math.MaxUint32, 1 << 31, 0, 7} {
		q.put(2, 0, 0, x)
		q.put(2, 0, 2, math.MaxUint32-x)
		q.send(2, 0)
		q.send(2, 0)
		q.commit()
		if message, age := q.p.Message(0); !slices.Equal(message, []uint32{x, 0, math.MaxUint32 - x}) || age != 0 {
			t.Errorf("behind Put of %d the message is %v, its age %d", x, message, age)
		}
	}
}

// P7.3, P7.4: a draft is not read until it is sent and committed, by nobody.
func TestDraftIsNotRead(t *testing.T) {
	q := twinOf(t, def(2, 1, 0))
	reads := func(name string, want uint32, wantAge uint32) {
		t.Helper()
		for part := range 2 {
			x, _ := q.p.Read(part, 0, 1)
			age, _ := q.p.Age(part, 0)
			if x != want || age != wantAge {
				t.Errorf("%s: partition %d reads %d of age %d, want %d of age %d", name, part, x, age, want, wantAge)
			}
		}
	}
	q.put(1, 0, 1, 7)
	reads("put", 0, 255)
	q.commit()
	reads("put, committed, and not sent", 0, 255)
	q.send(1, 0)
	reads("sent", 0, 255)
	q.commit()
	reads("sent and committed", 7, 0)
	q.put(1, 0, 1, 8)
	reads("the next one put", 7, 0)
	q.send(1, 0)
	reads("the next one sent", 7, 0)
	q.commit()
	reads("the next one committed", 8, 0)
}

// P7.3, P7.4: words put behind a Send and ahead of the Commit are in the message; and the draft keeps its words behind a Commit.
func TestDraftBehindSend(t *testing.T) {
	q := twinOf(t, def(3, 1, 0))
	q.put(1, 0, 0, 10)
	q.put(1, 0, 1, 11)
	q.send(1, 0)
	q.put(1, 0, 1, 21)
	q.put(1, 0, 2, 22)
	q.commit()
	if message, _ := q.p.Message(0); !slices.Equal(message, []uint32{10, 21, 22}) {
		t.Errorf("words put behind a Send: the message is %v", message)
	}
	q.put(1, 0, 0, 30)
	if message, _ := q.p.Message(0); !slices.Equal(message, []uint32{10, 21, 22}) {
		t.Errorf("words put behind a Commit: the message is %v", message)
	}
	q.send(1, 0)
	q.commit()
	if message, _ := q.p.Message(0); !slices.Equal(message, []uint32{30, 21, 22}) {
		t.Errorf("words that were put ahead of the Commit before: the message is %v", message)
	}
}

// P7.4: with nothing sent the message stays and is one older, up to 255; so it is at first; a Send counts for one Commit.
func TestAges(t *testing.T) {
	q := twinOf(t, def(1, 1, 0), def(1, 2, 0))
	age := func(want uint32) {
		t.Helper()
		x, err := q.p.Age(0, 0)
		message, told := q.p.Message(0)
		if x != want || told != want || err != api.OK {
			t.Fatalf("Age tells %d, %d, Message %d; want %d", x, err, told, want)
		}
		if other, _ := q.p.Age(0, 1); other != 255 {
			t.Fatalf("the other port's message is %d old", other)
		}
		if want != 255 && message[0] != 6 {
			t.Fatalf("the message is %v", message)
		}
	}
	for range 3 {
		age(255)
		q.commit()
	}
	for range 2 {
		q.put(1, 0, 0, 6)
		q.send(1, 0)
		q.commit()
		for n := range uint32(600) {
			age(min(n, 255))
			q.commit()
		}
	}
	q.send(1, 0)
	q.commit()
	age(0)
	q.commit()
	age(1)
	q.send(1, 0)
	q.commit()
	age(0)
}

// P7.4: Unsend and Drop, by whatever partition, of ports of one that writes several, of one that writes one, and of others.
func TestUnsendAndDrop(t *testing.T) {
	defs := list(def(2, 1, 0), def(1, 0, 1), def(16, 1, 0), def(3, 7, 1), def(2, 1))
	for _, part := range sample.Edges() {
		for _, drops := range []bool{false, true} {
			q := twinOf(t, defs...)
			for n, d := range defs {
				for word := range d.Words {
					q.put(d.Writer, n, word, uint32(5+word))
				}
				q.send(d.Writer, n)
			}
			q.commit()
			for n, d := range defs {
				q.put(d.Writer, n, 0, 50)
				q.send(d.Writer, n)
			}
			if drops {
				q.drop(part)
			} else {
				q.unsend(part)
			}
			for n, s := range look(t, q.p, defs) {
				want := state{sent: true}
				for word := range defs[n].Words {
					want.message = append(want.message, uint32(5+word))
				}
				want.draft = slices.Clone(want.message)
				want.draft[0] = 50
				if own := defs[n].Writer == part; own && drops {
					want.draft, want.sent = make([]uint32, defs[n].Words), false
				} else if own {
					want.sent = false
				}
				if !s.same(want) {
					t.Errorf("of partition %d, Drop %v: port %d has %v, want %v", part, drops, n, s, want)
				}
			}
		}
	}
}

// P7.4: a Send ahead of Unsend or Drop counts for nothing; one behind it counts, with the draft as it is then.
func TestSendAboutUnsend(t *testing.T) {
	q := twinOf(t, def(2, 1, 0))
	message := func(name string, wantAge uint32, want ...uint32) {
		t.Helper()
		q.commit()
		if got, age := q.p.Message(0); !slices.Equal(got, want) || age != wantAge {
			t.Errorf("%s: the message is %v of age %d, want %v of age %d", name, got, age, want, wantAge)
		}
	}
	q.put(1, 0, 0, 4)
	q.put(1, 0, 1, 5)
	q.send(1, 0)
	q.unsend(1)
	message("a Send ahead of Unsend", 255, 0, 0)
	q.send(1, 0)
	q.unsend(1)
	q.send(1, 0)
	message("a Send ahead of Unsend, and one behind it", 0, 4, 5)
	q.send(1, 0)
	q.drop(1)
	message("a Send ahead of Drop", 1, 4, 5)
	q.put(1, 0, 1, 6)
	q.send(1, 0)
	q.drop(1)
	q.put(1, 0, 0, 7)
	q.send(1, 0)
	message("a Send ahead of Drop, and one behind it", 0, 7, 0)
	q.unsend(1)
	message("an Unsend of nothing", 1, 7, 0)
	q.drop(1)
	q.send(1, 0)
	message("a Send of a draft that was dropped", 0, 0, 0)
}

// P7.1 to P7.4, R4: of nil, whatever is asked.
func TestNil(t *testing.T) {
	var p *port.Ports
	p.Commit()
	if p.Copy() != nil {
		t.Error("Copy of nil tells ports")
	}
	for _, part := range sample.Edges() {
		p.Unsend(part)
		p.Drop(part)
		if message, age := p.Message(part); len(message) != 0 || age != 0 {
			t.Errorf("Message(%d) of nil tells %v, %d", part, message, age)
		}
		for _, n := range sample.Edges() {
			if x, err := p.Age(part, n); x != 0 || err != api.ErrNil {
				t.Errorf("Age(%d, %d) of nil tells %d, %d", part, n, x, err)
			}
			if err := p.Send(part, n); err != api.ErrNil {
				t.Errorf("Send(%d, %d) of nil tells %d", part, n, err)
			}
			for _, word := range sample.Edges() {
				if x, err := p.Read(part, n, word); x != 0 || err != api.ErrNil {
					t.Errorf("Read(%d, %d, %d) of nil tells %d, %d", part, n, word, x, err)
				}
				if err := p.Put(part, n, word, 1); err != api.ErrNil {
					t.Errorf("Put(%d, %d, %d) of nil tells %d", part, n, word, err)
				}
			}
		}
	}
}

// R2: of several errors the first one, of whatever partitions, ports and words; beside it nothing is told, and nothing is changed.
func TestWhichErrorIsFirst(t *testing.T) {
	p := made(t, def(2, 1, 0))
	rows := []struct {
		name                string
		part, port, word    int
		read, age, put, snd api.Errno
	}{
		{"all is right, for the writer", 1, 0, 1, api.OK, api.OK, api.OK, api.OK},
		{"all is right, for a reader", 0, 0, 1, api.OK, api.OK, api.ErrRights, api.ErrRights},
		{"no port, no right, no word", 3, 1, 2, api.ErrNone, api.ErrNone, api.ErrNone, api.ErrNone},
		{"no port, a right elsewhere, no word", 1, 1, 2, api.ErrNone, api.ErrNone, api.ErrNone, api.ErrNone},
		{"no port, no right, a word", 3, -1, 0, api.ErrNone, api.ErrNone, api.ErrNone, api.ErrNone},
		{"a port, no right, no word", 3, 0, 2, api.ErrRights, api.ErrRights, api.ErrRights, api.ErrRights},
		{"a port, no right to write, no word", 0, 0, 2, api.ErrRange, api.OK, api.ErrRights, api.ErrRights},
		{"a port, no right, a word", 3, 0, 1, api.ErrRights, api.ErrRights, api.ErrRights, api.ErrRights},
		{"a port, a right, no word", 1, 0, 2, api.ErrRange, api.OK, api.ErrRange, api.OK},
		{"a port, a right, a word below 0", 1, 0, -1, api.ErrRange, api.OK, api.ErrRange, api.OK},
		{"a partition below 0, a word below 0", -1, 0, -1, api.ErrRights, api.ErrRights, api.ErrRights, api.ErrRights},
		{"all below 0", -1, -1, -1, api.ErrNone, api.ErrNone, api.ErrNone, api.ErrNone},
		{"all huge", math.MaxInt, math.MaxInt, math.MaxInt, api.ErrNone, api.ErrNone, api.ErrNone, api.ErrNone},
	}
	for _, row := range rows {
		p := p.Copy()
		_, read := p.Read(row.part, row.port, row.word)
		_, age := p.Age(row.part, row.port)
		put := p.Put(row.part, row.port, row.word, 9)
		snd := p.Send(row.part, row.port)
		if read != row.read || age != row.age || put != row.put || snd != row.snd {
			t.Errorf("%s: Read, Age, Put and Send tell %d, %d, %d, %d", row.name, read, age, put, snd)
		}
	}
	q := full(t)
	for _, part := range sample.Edges() {
		for _, n := range []int{math.MinInt, -1, 0, 1, 4, 5, 16, math.MaxInt} {
			for _, word := range []int{math.MinInt, -1, 0, 1, 2, 15, 16, math.MaxInt} {
				q.read(part, n, word)
				q.put(part, n, word, uint32(word)+90)
			}
			q.age(part, n)
			q.send(part, n)
		}
	}
}

// R3: a list that Message told, changed afterwards, changes nothing; nor do later calls change it.
func TestMessageGoesByItself(t *testing.T) {
	q := full(t)
	var told [][]uint32
	var before [][]uint32
	for n := range q.m.defs {
		message, _ := q.p.Message(n)
		told = append(told, message)
		before = append(before, slices.Clone(message))
	}
	q.commit()
	for _, d := range q.m.defs {
		q.drop(d.Writer)
	}
	for n := range q.m.defs {
		q.send(q.m.defs[n].Writer, n)
	}
	q.commit()
	for n, message := range told {
		if !slices.Equal(message, before[n]) {
			t.Errorf("what Message(%d) told is changed later: %v, it was %v", n, message, before[n])
		}
	}
	for n := range q.m.defs {
		message, _ := q.p.Message(n)
		for word := range message {
			message[word] += 1000
		}
		// What is behind an answer's end is no more the port's than what it tells.
		_ = append(message, 99, 99, 99)
	}
	q.holds("lists that Message told, changed")
}

// R3: definitions that New and Check were given are not changed, and, changed afterwards, change nothing.
func TestDefinitionsGoByThemselves(t *testing.T) {
	given := list(def(2, 1, 0), def(3, 0, 1), def(9, 5))
	before := slices.Clone(given)
	p := made(t, given[:2]...)
	port.Check(given)
	if !slices.Equal(given, before) {
		t.Fatalf("definitions that were handed in are changed: %v", given)
	}
	q := &twin{t, p, modelOf(before[:2])}
	given[0] = def(16, 7, 0, 2)
	given[1].Words, given[1].Readers = 1, 0
	q.holds("definitions handed to New, changed")
	q.put(1, 0, 1, 5)
	q.put(7, 0, 0, 5)
	q.put(1, 0, 2, 5)
	q.put(0, 1, 2, 5)
	q.read(2, 0, 0)
	q.read(1, 1, 2)
	q.commit()
}

// someDefs answers definitions that may be, one at least.
func someDefs(row *sample.Row) []api.PortDef {
	l := make([]api.PortDef, 1+row.Below(6))
	for n := range l {
		d := def(1+row.Below(4), row.Below(4))
		if row.Below(8) == 0 {
			d.Words = 16
		}
		// The bits of all partitions, but for the writer's.
		d.Readers = uint32(row.Below(256)) &^ (1 << d.Writer)
		l[n] = d
	}
	return l
}

// P7.2 to P7.4, R2: any calls, one behind the other, on several ports, as the words say it word by word; what tells an error changes nothing.
func TestCallsByTheWords(t *testing.T) {
	row := sample.From(7)
	told := map[api.Errno]int{}
	for range 150 {
		q := twinOf(t, someDefs(row)...)
		for range 300 {
			n := row.About(len(q.m.defs))
			part, word := row.About(5), row.About(4)
			// Most often the port's own words, asked for by one who may.
			if n >= 0 && n < len(q.m.defs) && row.Below(3) > 0 {
				part = q.m.defs[n].Writer
			}
			switch row.Below(12) {
			case 0:
				q.commit()
			case 1:
				q.unsend(part)
			case 2:
				q.drop(part)
			case 3:
				q = q.copied()
			case 4, 5:
				told[q.send(part, n)]++
			case 6:
				told[q.age(part, n)]++
			case 7, 8:
				told[q.read(part, n, word)]++
			default:
				told[q.put(part, n, word, uint32(row.Next()))]++
			}
		}
	}
	for _, err := range []api.Errno{api.OK, api.ErrNone, api.ErrRights, api.ErrRange} {
		if told[err] < 500 {
			t.Errorf("%d was told only %d times", err, told[err])
		}
	}
}

// The kinds of calls that a log has.
const (
	logPut = iota
	logSend
	logUnsend
	logDrop
	logCommit
)

// entry is a call that did something: of a port, a word and a number, or of a partition, as its kind is.
type entry struct {
	kind, part, port, word int
	x                      uint32
}

// takesBack tells whether the entry takes back what was sent at a port of this writer.
func (e entry) takesBack(writer int) bool {
	return (e.kind == logUnsend || e.kind == logDrop) && e.part == writer
}

// wordOf tells a draft's word behind these calls: the last that was put there and not dropped.
func wordOf(log []entry, number, writer, word int) uint32 {
	for _, e := range slices.Backward(log) {
		if e.kind == logDrop && e.part == writer {
			return 0
		}
		if e.kind == logPut && e.port == number && e.word == word {
			return e.x
		}
	}
	return 0
}

// sentIn tells whether a frame's calls leave the port's draft sent.
func sentIn(frame []entry, number, writer int) bool {
	for _, e := range slices.Backward(frame) {
		if e.takesBack(writer) || e.kind == logSend && e.port == number {
			return e.kind == logSend
		}
	}
	return false
}

// messageBy tells a port's message and age from the log alone: the last Commit that a Send stood ahead of, and what was put by then.
func messageBy(log []entry, number int, d api.PortDef) ([]uint32, uint32) {
	message := make([]uint32, d.Words)
	end := len(log)
	for end > 0 && log[end-1].kind != logCommit {
		end--
	}
	for age := uint32(0); end > 0; age++ {
		begin := end - 1
		for begin > 0 && log[begin-1].kind != logCommit {
			begin--
		}
		if sentIn(log[begin:end-1], number, d.Writer) {
			for word := range message {
				message[word] = wordOf(log[:end-1], number, d.Writer, word)
			}
			return message, min(age, 255)
		}
		end = begin
	}
	return message, 255
}

// do makes the call, and tells whether it did something.
func (e entry) do(p *port.Ports) bool {
	switch e.kind {
	case logPut:
		return p.Put(e.part, e.port, e.word, e.x) == api.OK
	case logSend:
		return p.Send(e.part, e.port) == api.OK
	case logUnsend:
		p.Unsend(e.part)
	case logDrop:
		p.Drop(e.part)
	default:
		p.Commit()
	}
	return true
}

// P7.5: what each port's readers read does not change between two Commits, and is what its writer last sent ahead of one, with the words as they were put by then; so a log of the calls of that port and its writer alone tells it.
func TestReadersReadWhatWasLastSent(t *testing.T) {
	row := sample.From(75)
	moved := 0
	for range 60 {
		defs := someDefs(row)
		p := made(t, defs...)
		var log []entry
		for range 200 {
			n := row.Below(len(defs))
			e := entry{row.Below(5), row.Below(4), n, row.Below(4), uint32(row.Next())}
			if row.Below(3) > 0 {
				e.part = defs[n].Writer
			}
			// A message comes to be by many calls and one Commit.
			if (e.kind == logUnsend || e.kind == logDrop) && row.Below(4) > 0 {
				e.kind = logSend
			}
			var before [][]uint32
			for k := range defs {
				message, age := p.Message(k)
				before = append(before, append(message, age))
			}
			if e.do(p) {
				log = append(log, e)
			}
			for k, d := range defs {
				message, age := p.Message(k)
				want, wantAge := messageBy(log, k, d)
				if !slices.Equal(message, want) || age != wantAge {
					t.Fatalf("behind %v port %d of %v has %v of age %d, want %v of age %d", log, k, d, message, age, want, wantAge)
				}
				readAll(t, p, k, d, want, wantAge)
				same := slices.Equal(before[k], append(message, age))
				if e.kind != logCommit && !same {
					t.Fatalf("%v changes what is read at port %d", e, k)
				}
				if !same {
					moved++
				}
			}
		}
	}
	if moved < 5000 {
		t.Errorf("only %d messages became others, or older", moved)
	}
}

// readAll fails the test unless the port's readers and its writer read this message, and nobody else reads any.
func readAll(t *testing.T, p *port.Ports, number int, d api.PortDef, want []uint32, wantAge uint32) {
	t.Helper()
	for part := range 9 {
		may := part == d.Writer || sample.InSet(d.Readers, part)
		age, err := p.Age(part, number)
		if may && (age != wantAge || err != api.OK) || !may && err != api.ErrRights {
			t.Fatalf("partition %d reads at port %d of %v an age of %d, %d; want %d", part, number, d, age, err, wantAge)
		}
		for word := range want {
			x, err := p.Read(part, number, word)
			if may && (x != want[word] || err != api.OK) || !may && err != api.ErrRights {
				t.Fatalf("partition %d reads at port %d of %v word %d as %d, %d; want %d", part, number, d, word, x, err, want[word])
			}
		}
	}
}

// P7.5: what is done with one port is not seen at another one, of the same writer or of another one.
func TestPortsGoByThemselves(t *testing.T) {
	for own := range 16 {
		var defs []api.PortDef
		for n := range 16 {
			defs = append(defs, def(1+n%3, n%4, 5))
		}
		q := twinOf(t, defs...)
		d := defs[own]
		for word := range d.Words {
			q.put(d.Writer, own, word, uint32(word+1))
		}
		q.send(d.Writer, own)
		q.commit()
		for n, s := range look(t, q.p, defs) {
			if n != own && !s.same(state{make([]uint32, defs[n].Words), 255, make([]uint32, defs[n].Words), false}) {
				t.Errorf("calls of port %d alone: port %d has %v", own, n, s)
			}
			if n == own && (s.age != 0 || s.message[0] != 1 || s.message[d.Words-1] != uint32(d.Words)) {
				t.Errorf("calls of port %d alone: it has %v", own, s)
			}
		}
	}
}
