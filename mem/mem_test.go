package mem_test

import (
	"bytes"
	"math"
	"slices"
	"testing"

	"tappet/api"
	"tappet/mem"
	"tappet/sample"
)

const (
	r = api.RightR
	w = api.RightW
	x = api.RightX

	top = math.MaxUint32 // the greatest number of the machine
)

// region is a short form.
func region(base, size uint32, rights uint8) api.Region {
	return api.Region{Base: base, Size: size, Rights: rights}
}

// list is a short form.
func list(l ...api.Region) []api.Region { return l }

// model is a memory by the chapter's words, which looks at each byte for itself.
type model []byte

// there tells whether all of these bytes are.
func (m model) there(at uint32, n uint64) bool {
	for k := range n {
		if uint64(at)+k >= uint64(len(m)) {
			return false
		}
	}
	return true
}

// lets tells whether some region has all of these bytes, with the right, and they are there.
func (m model) lets(l []api.Region, at uint32, n uint64, right uint8) bool {
	has := func(a api.Region) bool {
		for k := range n {
			// These numbers do not wrap round.
			place := uint64(at) + k
			if place < uint64(a.Base) || place >= uint64(a.Base)+uint64(a.Size) {
				return false
			}
		}
		return a.Rights&right != 0
	}
	return m.there(at, n) && slices.ContainsFunc(l, has)
}

func (m model) zero(at, n uint32) api.Errno {
	if !m.there(at, uint64(n)) {
		return api.ErrRange
	}
	for k := range n {
		m[at+k] = 0
	}
	return api.OK
}

func (m model) put(at uint32, b []byte) api.Errno {
	if !m.there(at, uint64(len(b))) {
		return api.ErrRange
	}
	for k, y := range b {
		m[int(at)+k] = y
	}
	return api.OK
}

func (m model) get(at, n uint32) ([]byte, api.Errno) {
	if !m.there(at, uint64(n)) {
		return nil, api.ErrRange
	}
	var b []byte
	for k := range n {
		b = append(b, m[at+k])
	}
	return b, api.OK
}

func (m model) load(l []api.Region, at uint32, n uint8) (uint32, api.Errno) {
	if n != 1 && n != 2 && n != 4 {
		return 0, api.ErrArg
	}
	if !m.lets(l, at, uint64(n), r) {
		return 0, api.ErrBounds
	}
	word := uint32(0)
	for k := n; k > 0; k-- {
		word = word*256 + uint32(m[at+uint32(k)-1])
	}
	return word, api.OK
}

func (m model) store(l []api.Region, at uint32, n uint8, word uint32) api.Errno {
	if n != 1 && n != 2 && n != 4 {
		return api.ErrArg
	}
	if !m.lets(l, at, uint64(n), w) {
		return api.ErrBounds
	}
	for k := range uint32(n) {
		m[at+k] = byte(word % 256)
		word /= 256
	}
	return api.OK
}

func (m model) fetch(l []api.Region, at uint32) ([]byte, api.Errno) {
	if !m.lets(l, at, 8, x) {
		return nil, api.ErrBounds
	}
	return m.get(at, 8)
}

// made answers a memory with these bytes.
func made(t *testing.T, b []byte) *mem.Memory {
	t.Helper()
	m, err := mem.New(uint32(len(b)))
	if err != api.OK {
		t.Fatalf("New(%d) tells %d", len(b), err)
	}
	if err := m.Put(0, b); err != api.OK {
		t.Fatalf("Put of all %d bytes tells %d", len(b), err)
	}
	return m
}

// all answers all bytes of a memory.
func all(m *mem.Memory) []byte {
	b, _ := m.Get(0, m.Size())
	return b
}

// holds fails the test unless the memory has just these bytes.
func holds(t *testing.T, name string, m *mem.Memory, want []byte) {
	t.Helper()
	if got := all(m); m.Size() != uint32(len(want)) || !bytes.Equal(got, want) {
		t.Fatalf("%s: the memory of %d bytes has %v, want %v", name, m.Size(), got, want)
	}
}

// twin is a memory and its model, each call of which is made of both.
type twin struct {
	t *testing.T
	m *mem.Memory
	b model
}

func twinOf(t *testing.T, b []byte) twin { return twin{t, made(t, b), slices.Clone(b)} }

// same fails the test unless both answered the same, and stand the same behind it.
func (p twin) same(name string, got, want []byte, err, wantErr api.Errno) {
	p.t.Helper()
	if err != wantErr || !bytes.Equal(got, want) {
		p.t.Fatalf("%s of %v tells %v and %d, want %v and %d", name, []byte(p.b), got, err, want, wantErr)
	}
	holds(p.t, name, p.m, p.b)
}

func (p twin) zero(at, n uint32) {
	p.t.Helper()
	p.same("Zero", nil, nil, p.m.Zero(at, n), p.b.zero(at, n))
}

func (p twin) put(at uint32, b []byte) {
	p.t.Helper()
	p.same("Put", nil, nil, p.m.Put(at, b), p.b.put(at, b))
}

func (p twin) get(at, n uint32) {
	p.t.Helper()
	got, err := p.m.Get(at, n)
	want, wantErr := p.b.get(at, n)
	p.same("Get", got, want, err, wantErr)
}

func (p twin) load(l []api.Region, at uint32, n uint8) api.Errno {
	p.t.Helper()
	got, err := p.m.Load(l, at, n)
	want, wantErr := p.b.load(l, at, n)
	if got != want {
		p.t.Fatalf("Load(%v, %d, %d) of %v tells %d, want %d", l, at, n, []byte(p.b), got, want)
	}
	p.same("Load", nil, nil, err, wantErr)
	return err
}

func (p twin) store(l []api.Region, at uint32, n uint8, word uint32) api.Errno {
	p.t.Helper()
	err := p.m.Store(l, at, n, word)
	p.same("Store", nil, nil, err, p.b.store(l, at, n, word))
	return err
}

func (p twin) fetch(l []api.Region, at uint32) api.Errno {
	p.t.Helper()
	got, err := p.m.Fetch(l, at)
	want, wantErr := p.b.fetch(l, at)
	p.same("Fetch", got, want, err, wantErr)
	return err
}

// numbers are such as lie about 0, about 2^31 and about 2^32.
func numbers(most uint32) []uint32 {
	var out []uint32
	for n := range most {
		out = append(out, n, top-n)
	}
	return append(out, 1<<31-1, 1<<31, 1<<31+1)
}

// someOf answers at most that many regions about a memory of 24 bytes, such among them that overlap, pass its end or 2^32, or have rights that there are not.
func someOf(row *sample.Row, most int) []api.Region {
	l := make([]api.Region, row.Below(most+1))
	for n := range l {
		l[n] = region(uint32(row.Below(26)), uint32(row.Below(16)), uint8(row.Below(8)))
		switch row.Below(10) {
		case 0:
			l[n].Size = top - uint32(row.Below(5))
		case 1:
			l[n].Base = top - uint32(row.Below(5))
		case 2:
			l[n].Rights = uint8(row.Below(256))
		}
	}
	return l
}

// P6.1: the edges of sizes; all bytes are 0 at first, and there is no memory beside an error.
func TestNew(t *testing.T) {
	for _, size := range []uint32{0, 1, 2, 8, 262143, 262144} {
		m, err := mem.New(size)
		if err != api.OK || m == nil {
			t.Fatalf("New(%d) tells %v, %d", size, m, err)
		}
		if m.Size() != size {
			t.Errorf("New(%d) has %d bytes", size, m.Size())
		}
		b, err := m.Get(0, size)
		if err != api.OK || !bytes.Equal(b, make([]byte, size)) {
			t.Errorf("New(%d): Get of all tells %d bytes, not all 0, or %d", size, len(b), err)
		}
		if _, err := m.Get(size, 1); err != api.ErrRange {
			t.Errorf("New(%d): Get of the byte behind all tells %d", size, err)
		}
	}
	for _, size := range []uint32{262145, 262146, 1 << 19, 1 << 31, top - 1, top} {
		if m, err := mem.New(size); m != nil || err != api.ErrArg {
			t.Errorf("New(%d) tells %v, %d", size, m, err)
		}
	}
}

// P6.1, R5: two memories that New made have nothing in common, and a later one is 0 whatever was put in an earlier one.
func TestNewAgain(t *testing.T) {
	first := made(t, []byte{1, 2, 3, 4})
	second, _ := mem.New(4)
	holds(t, "a second one", second, []byte{0, 0, 0, 0})
	second.Put(1, []byte{9, 9})
	holds(t, "the first one", first, []byte{1, 2, 3, 4})
}

// P6.1: a copy has the same bytes, and neither of the two changes with the other, by whatever call.
func TestCopy(t *testing.T) {
	whole := list(region(0, 8, r+w+x))
	changes := []struct {
		name string
		call func(m *mem.Memory) api.Errno
		want []byte
	}{
		{"Zero", func(m *mem.Memory) api.Errno { return m.Zero(2, 3) }, []byte{1, 2, 0, 0, 0, 6, 7, 8}},
		{"Put", func(m *mem.Memory) api.Errno { return m.Put(6, []byte{70, 80}) }, []byte{1, 2, 3, 4, 5, 6, 70, 80}},
		{"Store", func(m *mem.Memory) api.Errno { return m.Store(whole, 0, 4, 0) }, []byte{0, 0, 0, 0, 5, 6, 7, 8}},
	}
	before := []byte{1, 2, 3, 4, 5, 6, 7, 8}
	for _, change := range changes {
		m := made(t, before)
		other := m.Copy()
		third := other.Copy()
		holds(t, "the copy", other, before)
		if err := change.call(m); err != api.OK {
			t.Errorf("%s tells %d", change.name, err)
		}
		holds(t, change.name, m, change.want)
		holds(t, change.name+" of the first, the copy", other, before)
		if err := change.call(third); err != api.OK {
			t.Errorf("%s of a copy's copy tells %d", change.name, err)
		}
		holds(t, change.name+" of a copy's copy", third, change.want)
		holds(t, change.name+" of a copy's copy, the copy", other, before)
		m = other.Copy()
		if err := change.call(other); err != api.OK {
			t.Errorf("%s of the copy tells %d", change.name, err)
		}
		holds(t, change.name+" of the copy", other, change.want)
		holds(t, change.name+" of the copy, the first", m, before)
	}
}

// P6.1: copies of memories of all bytes and of none; what is done to one behind Copy has its errors as ever.
func TestCopySizes(t *testing.T) {
	for _, size := range []int{0, 1, 262144} {
		b := sample.Text(size)
		m := made(t, b).Copy()
		if m == nil || m.Size() != uint32(size) || !bytes.Equal(all(m), b) {
			t.Fatalf("a copy of %d bytes has %d, or others", size, m.Size())
		}
		if err := m.Put(uint32(size), []byte{1}); err != api.ErrRange {
			t.Errorf("a copy of %d bytes: Put behind them tells %d", size, err)
		}
		if _, err := m.Load(list(region(0, top, r)), uint32(size), 1); err != api.ErrBounds {
			t.Errorf("a copy of %d bytes: Load behind them tells %d", size, err)
		}
	}
}

// P6.1, P6.2, P6.3, R4: of nil, ahead of all that is wrong besides, and of what would be right.
func TestNil(t *testing.T) {
	var m *mem.Memory
	if m.Size() != 0 || m.Copy() != nil {
		t.Errorf("Size and Copy of nil: %d, %v", m.Size(), m.Copy())
	}
	for _, at := range []uint32{0, 1, 8, top} {
		for _, n := range []uint32{0, 1, 8, top} {
			if err := m.Zero(at, n); err != api.ErrNil {
				t.Errorf("Zero(%d, %d) of nil tells %d", at, n, err)
			}
			if b, err := m.Get(at, n); len(b) != 0 || err != api.ErrNil {
				t.Errorf("Get(%d, %d) of nil tells %v, %d", at, n, b, err)
			}
		}
		for _, b := range [][]byte{nil, {}, {1}, make([]byte, 9)} {
			if err := m.Put(at, b); err != api.ErrNil {
				t.Errorf("Put(%d, %v) of nil tells %d", at, b, err)
			}
		}
		for _, l := range [][]api.Region{nil, list(region(0, 16, r+w+x)), list(region(0, top, r+w+x))} {
			for _, n := range []uint8{0, 1, 2, 3, 4, 5, 8, 255} {
				if word, err := m.Load(l, at, n); word != 0 || err != api.ErrNil {
					t.Errorf("Load(%v, %d, %d) of nil tells %d, %d", l, at, n, word, err)
				}
				if err := m.Store(l, at, n, 7); err != api.ErrNil {
					t.Errorf("Store(%v, %d, %d, 7) of nil tells %d", l, at, n, err)
				}
			}
			if b, err := m.Fetch(l, at); len(b) != 0 || err != api.ErrNil {
				t.Errorf("Fetch(%v, %d) of nil tells %v, %d", l, at, b, err)
			}
		}
	}
}

// P6.2, P6.3: the chapter's table.
func TestExamples(t *testing.T) {
	l := list(region(0, 4, r+w), region(4, 4, r))
	m, _ := mem.New(8)
	if err := m.Store(l, 0, 4, 258); err != api.OK {
		t.Errorf("Store(0, 4, 258) tells %d", err)
	}
	loads := []struct {
		at   uint32
		n    uint8
		want uint32
		err  api.Errno
	}{
		{0, 2, 258, api.OK},
		{1, 1, 1, api.OK},
		{2, 4, 0, api.ErrBounds},
		{4, 1, 0, api.OK},
		{0, 3, 0, api.ErrArg},
	}
	for _, row := range loads {
		if row.at == 4 {
			if err := m.Store(l, 4, 1, 7); err != api.ErrBounds {
				t.Errorf("Store(4, 1, 7) tells %d", err)
			}
		}
		if word, err := m.Load(l, row.at, row.n); word != row.want || err != row.err {
			t.Errorf("Load(%d, %d) tells %d, %d; want %d, %d", row.at, row.n, word, err, row.want, row.err)
		}
	}
	if b, err := m.Get(7, 2); len(b) != 0 || err != api.ErrRange {
		t.Errorf("Get(7, 2) tells %v, %d", b, err)
	}
	if b, err := m.Get(9, 0); len(b) != 0 || err != api.OK {
		t.Errorf("Get(9, 0) tells %v, %d", b, err)
	}
	holds(t, "behind all of them", m, []byte{2, 1, 0, 0, 0, 0, 0, 0})
}

// P6.2: places and numbers of bytes of a memory of 8 bytes: which are there.
func TestPlaces(t *testing.T) {
	rows := []struct {
		name  string
		at, n uint32
		err   api.Errno
	}{
		{"the first", 0, 1, api.OK},
		{"the first ones", 0, 3, api.OK},
		{"all", 0, 8, api.OK},
		{"all, and one more", 0, 9, api.ErrRange},
		{"amid them", 3, 2, api.OK},
		{"up to the last", 5, 3, api.OK},
		{"up to the last, and one more", 5, 4, api.ErrRange},
		{"the last", 7, 1, api.OK},
		{"the last, and one more", 7, 2, api.ErrRange},
		{"one just behind", 8, 1, api.ErrRange},
		{"one far behind", 1000, 1, api.ErrRange},
		{"the last number", top, 1, api.ErrRange},

		{"none, at the beginning", 0, 0, api.OK},
		{"none, amid them", 4, 0, api.OK},
		{"none, at the last", 7, 0, api.OK},
		{"none, just behind", 8, 0, api.OK},
		{"none, one behind that", 9, 0, api.OK},
		{"none, far behind", 1000, 0, api.OK},
		{"none, at the last number", top, 0, api.OK},

		{"the most, from the first on", 0, top, api.ErrRange},
		{"up to 2^32", 1, top, api.ErrRange},
		{"past 2^32, as if one", 2, top, api.ErrRange},
		{"past 2^32, as if up to the last", 8, top, api.ErrRange},
		{"past 2^32, as if amid them", 7, top - 3, api.ErrRange},
		{"up to 2^32, from the last number on", top, 1, api.ErrRange},
		{"past 2^32, from the last number on", top, 2, api.ErrRange},
		{"past 2^32, from the last number on, as if all", top, 9, api.ErrRange},
		{"past 2^32, half and half", 1 << 31, 1 << 31, api.ErrRange},
		{"past 2^32, half and half, and some", 1 << 31, 1<<31 + 4, api.ErrRange},
		{"the most, from the last number on", top, top, api.ErrRange},
	}
	before := []byte{11, 12, 13, 14, 15, 16, 17, 18}
	for _, row := range rows {
		behind := uint64(row.at) + uint64(row.n)
		var told []byte
		zeroed := slices.Clone(before)
		if row.err == api.OK && row.n > 0 {
			told = before[row.at:behind]
			copy(zeroed[row.at:], make([]byte, row.n))
		}
		m := made(t, before)
		if b, err := m.Get(row.at, row.n); err != row.err || !bytes.Equal(b, told) {
			t.Errorf("%s: Get(%d, %d) tells %v, %d; want %v, %d", row.name, row.at, row.n, b, err, told, row.err)
		}
		holds(t, row.name+", Get", m, before)
		if err := m.Zero(row.at, row.n); err != row.err {
			t.Errorf("%s: Zero(%d, %d) tells %d, want %d", row.name, row.at, row.n, err, row.err)
		}
		holds(t, row.name+", Zero", m, zeroed)
		if row.n > 1000 {
			continue
		}
		m = made(t, before)
		b := sample.Text(int(row.n))
		put := slices.Clone(before)
		if row.err == api.OK && row.n > 0 {
			copy(put[row.at:], b)
		}
		if err := m.Put(row.at, b); err != row.err {
			t.Errorf("%s: Put(%d, %d bytes) tells %d, want %d", row.name, row.at, row.n, err, row.err)
		}
		holds(t, row.name+", Put", m, put)
	}
}

// P6.2: no bytes of a list that is nil, or empty with room, and more bytes than the memory has.
func TestPutOfNoneAndOfMany(t *testing.T) {
	before := []byte{1, 2, 3}
	m := made(t, before)
	for _, at := range []uint32{0, 2, 3, 4, 1 << 20, top} {
		for _, b := range [][]byte{nil, {}, make([]byte, 0, 8)} {
			if err := m.Put(at, b); err != api.OK {
				t.Errorf("Put(%d) of no bytes tells %d", at, err)
			}
		}
		for _, size := range []int{4, 262145, 1 << 20} {
			if err := m.Put(at, make([]byte, size)); err != api.ErrRange {
				t.Errorf("Put(%d) of %d bytes tells %d", at, size, err)
			}
		}
	}
	holds(t, "no bytes, and too many", m, before)
}

// P6.2: Zero, Put and Get in memories of all small sizes, at all places, as the words say it byte by byte.
func TestPlacesByTheWords(t *testing.T) {
	for size := range 7 {
		p := twinOf(t, sample.Text(size))
		for round, at := range numbers(10) {
			for _, n := range numbers(10) {
				p.get(at, n)
				p.zero(at, n)
				p.put(0, sample.From(uint64(round)).Bytes(size))
				if n < 100 {
					p.put(at, sample.From(uint64(n)).Bytes(int(n)))
				}
				p.get(at, n)
			}
		}
	}
}

// P6.2, P6.3: the edges of the greatest memory.
func TestTheMostMemory(t *testing.T) {
	const size = 262144
	want := sample.Text(size)
	m := made(t, want)
	over := list(region(0, top, r+w+x))
	if b, err := m.Get(size-3, 3); err != api.OK || !bytes.Equal(b, want[size-3:]) {
		t.Errorf("Get of the last 3 tells %v, %d", b, err)
	}
	if b, err := m.Get(size-3, 4); err != api.ErrRange || len(b) != 0 {
		t.Errorf("Get of the last 3 and one more tells %v, %d", b, err)
	}
	if err := m.Put(size-1, []byte{1, 2}); err != api.ErrRange {
		t.Errorf("Put of 2 at the last tells %d", err)
	}
	if err := m.Put(1, want); err != api.ErrRange {
		t.Errorf("Put of all, one too far, tells %d", err)
	}
	if err := m.Zero(1, size); err != api.ErrRange {
		t.Errorf("Zero of all, one too far, tells %d", err)
	}
	if err := m.Store(over, size-3, 4, 5); err != api.ErrBounds {
		t.Errorf("Store past the last tells %d", err)
	}
	if _, err := m.Fetch(over, size-7); err != api.ErrBounds {
		t.Errorf("Fetch past the last tells %d", err)
	}
	if !bytes.Equal(all(m), want) {
		t.Error("beside errors bytes are others")
	}
	if err := m.Store(over, size-4, 4, 0x04030201); err != api.OK {
		t.Errorf("Store of the last word tells %d", err)
	}
	copy(want[size-4:], []byte{1, 2, 3, 4})
	if b, err := m.Fetch(over, size-8); err != api.OK || !bytes.Equal(b, want[size-8:]) {
		t.Errorf("Fetch of the last 8 tells %v, %d", b, err)
	}
	if err := m.Zero(size-1, 1); err != api.OK {
		t.Errorf("Zero of the last tells %d", err)
	}
	want[size-1] = 0
	if !bytes.Equal(all(m), want) {
		t.Error("behind Store and Zero of the last ones others are changed")
	}
	if err := m.Zero(0, size); err != api.OK || !bytes.Equal(all(m), make([]byte, size)) {
		t.Errorf("Zero of all tells %d, or leaves some", err)
	}
}

// P6.3: which n may be, with a region that would let all be, and with none.
func TestWordLengths(t *testing.T) {
	for n := range 256 {
		for _, l := range [][]api.Region{list(region(0, 300, r+w+x)), nil} {
			for _, at := range []uint32{0, 300, top} {
				want := api.OK
				switch {
				case n != 1 && n != 2 && n != 4:
					want = api.ErrArg
				case l == nil || at != 0:
					want = api.ErrBounds
				}
				before := sample.Text(300)
				m := made(t, before)
				if word, err := m.Load(l, at, uint8(n)); err != want || want != api.OK && word != 0 {
					t.Errorf("Load(%v, %d, %d) tells %d, %d; want %d", l, at, n, word, err, want)
				}
				if err := m.Store(l, at, uint8(n), 0); err != want {
					t.Errorf("Store(%v, %d, %d, 0) tells %d, want %d", l, at, n, err, want)
				}
				if want == api.OK {
					copy(before, make([]byte, n))
				}
				holds(t, "words of so many bytes", m, before)
			}
		}
	}
}

// P6.3: the lowest byte of a word stands first, and a Store of 1 or 2 bytes takes x's lowest ones.
func TestBytesOfWords(t *testing.T) {
	l := list(region(0, 6, r+w))
	loads := []struct {
		at   uint32
		n    uint8
		want uint32
	}{
		{0, 1, 0x81}, {1, 1, 0x92}, {5, 1, 0xd6},
		{0, 2, 0x9281}, {1, 2, 0xa392}, {4, 2, 0xd6c5},
		{0, 4, 0xb4a39281}, {1, 4, 0xc5b4a392}, {2, 4, 0xd6c5b4a3},
	}
	before := []byte{0x81, 0x92, 0xa3, 0xb4, 0xc5, 0xd6}
	m := made(t, before)
	for _, row := range loads {
		if word, err := m.Load(l, row.at, row.n); word != row.want || err != api.OK {
			t.Errorf("Load(%d, %d) tells %#x, %d; want %#x", row.at, row.n, word, err, row.want)
		}
	}
	holds(t, "loaded", m, before)
	stores := []struct {
		at   uint32
		n    uint8
		word uint32
		want []byte
	}{
		{0, 1, 0x44332211, []byte{0x11, 0x92, 0xa3, 0xb4, 0xc5, 0xd6}},
		{5, 1, 0x44332211, []byte{0x81, 0x92, 0xa3, 0xb4, 0xc5, 0x11}},
		{0, 2, 0x44332211, []byte{0x11, 0x22, 0xa3, 0xb4, 0xc5, 0xd6}},
		{3, 2, 0x44332211, []byte{0x81, 0x92, 0xa3, 0x11, 0x22, 0xd6}},
		{0, 4, 0x44332211, []byte{0x11, 0x22, 0x33, 0x44, 0xc5, 0xd6}},
		{1, 4, 0x44332211, []byte{0x81, 0x11, 0x22, 0x33, 0x44, 0xd6}},
		{2, 4, top, []byte{0x81, 0x92, 255, 255, 255, 255}},
		{2, 4, 0, []byte{0x81, 0x92, 0, 0, 0, 0}},
		{2, 4, 1 << 31, []byte{0x81, 0x92, 0, 0, 0, 128}},
		{1, 1, 256, []byte{0x81, 0, 0xa3, 0xb4, 0xc5, 0xd6}},
		{1, 2, 1 << 16, []byte{0x81, 0, 0, 0xb4, 0xc5, 0xd6}},
	}
	for _, row := range stores {
		m := made(t, before)
		if err := m.Store(l, row.at, row.n, row.word); err != api.OK {
			t.Errorf("Store(%d, %d, %#x) tells %d", row.at, row.n, row.word, err)
		}
		holds(t, "stored", m, row.want)
	}
}

// P6.3: where a word lies in the regions, of a memory of 16 bytes; the regions have the right that each call asks for, but where it says otherwise.
func TestRegionsOfWords(t *testing.T) {
	for _, asked := range []uint8{r, w} {
		none := uint8(r+w+x) - asked
		rows := []struct {
			name string
			l    []api.Region
			at   uint32
			n    uint8
			err  api.Errno
		}{
			{"no region, nil", nil, 0, 1, api.ErrBounds},
			{"no region, empty", list(), 0, 4, api.ErrBounds},
			{"at a region's beginning", list(region(4, 8, asked)), 4, 4, api.OK},
			{"one byte ahead of it", list(region(4, 8, asked)), 3, 4, api.ErrBounds},
			{"one byte ahead of it, alone", list(region(4, 8, asked)), 3, 1, api.ErrBounds},
			{"in a region", list(region(4, 8, asked)), 6, 2, api.OK},
			{"at a region's end", list(region(4, 8, asked)), 8, 4, api.OK},
			{"at a region's end, 2 bytes", list(region(4, 8, asked)), 10, 2, api.OK},
			{"at a region's end, 1 byte", list(region(4, 8, asked)), 11, 1, api.OK},
			{"one byte past it", list(region(4, 8, asked)), 9, 4, api.ErrBounds},
			{"one byte past it, 2 bytes", list(region(4, 8, asked)), 11, 2, api.ErrBounds},
			{"one byte past it, 1 byte", list(region(4, 8, asked)), 12, 1, api.ErrBounds},
			{"a region of just the word", list(region(5, 4, asked)), 5, 4, api.OK},
			{"a region of a byte less", list(region(5, 3, asked)), 5, 4, api.ErrBounds},
			{"a region of no bytes", list(region(5, 0, asked)), 5, 1, api.ErrBounds},

			{"in two regions only together", list(region(0, 4, asked), region(4, 4, asked)), 2, 4, api.ErrBounds},
			{"in two regions only together, 2 bytes", list(region(0, 4, asked), region(4, 4, asked)), 3, 2, api.ErrBounds},
			{"in two regions only together, and in a third one", list(region(0, 4, asked), region(4, 4, asked), region(2, 4, asked)), 2, 4, api.OK},

			{"without the right", list(region(0, 16, none)), 0, 1, api.ErrBounds},
			{"without any right", list(region(0, 16, 0)), 0, 1, api.ErrBounds},
			{"with a right that there is not", list(region(0, 16, 8)), 0, 1, api.ErrBounds},
			{"with all rights", list(region(0, 16, r+w+x)), 0, 1, api.OK},
			{"the first has not the right, the second has", list(region(0, 16, none), region(0, 16, asked)), 8, 4, api.OK},
			{"the first has the right, the second not", list(region(0, 16, asked), region(0, 16, none)), 8, 4, api.OK},
			{"the one has the right, the other one the bytes", list(region(0, 4, asked), region(4, 12, none)), 8, 4, api.ErrBounds},
			{"bytes half with the right, half without", list(region(0, 4, asked), region(4, 12, none)), 2, 4, api.ErrBounds},
			{"in the ninth", append(slices.Repeat(list(region(0, 4, asked)), 8), region(8, 4, asked)), 8, 4, api.OK},

			{"a region past the memory's end, the last word", list(region(8, 100, asked)), 12, 4, api.OK},
			{"a region past the memory's end, the last byte", list(region(8, 100, asked)), 15, 1, api.OK},
			{"a region past the memory's end, a byte past it", list(region(8, 100, asked)), 13, 4, api.ErrBounds},
			{"a region past the memory's end, 2 bytes at the last", list(region(8, 100, asked)), 15, 2, api.ErrBounds},
			{"a region past the memory's end, just behind it", list(region(8, 100, asked)), 16, 1, api.ErrBounds},
			{"a region past the memory's end, far behind it", list(region(8, 100, asked)), 100, 4, api.ErrBounds},
			{"a region behind the memory", list(region(16, 8, asked)), 16, 4, api.ErrBounds},
			{"the greatest region, the last word", list(region(0, top, asked)), 12, 4, api.OK},
			{"the greatest region, just behind the memory", list(region(0, top, asked)), 16, 1, api.ErrBounds},

			{"past 2^32, none has it", list(region(0, 16, asked)), top, 2, api.ErrBounds},
			{"past 2^32, a region that passes it too", list(region(top-7, 100, asked)), top - 1, 4, api.ErrBounds},
			{"past 2^32, a region that passes it, and one from 0 on", list(region(top-7, 100, asked), region(0, 16, asked)), top, 4, api.ErrBounds},
			{"up to 2^32", list(region(top-7, 100, asked)), top - 3, 4, api.ErrBounds},
			{"the last number", list(region(top-7, 100, asked)), top, 1, api.ErrBounds},
			{"the first bytes, of a region that passes 2^32", list(region(top-7, 100, asked)), 0, 4, api.ErrBounds},
		}
		before := sample.Text(16)
		for _, row := range rows {
			behind := slices.Clone(before)
			word, changed := uint32(0), asked == w && row.err == api.OK
			if row.err == api.OK {
				for k := range uint32(row.n) {
					word += uint32(before[row.at+k]) << (8 * k)
				}
			}
			if changed {
				copy(behind[row.at:], []byte{0xdd, 0xcc, 0xbb, 0xaa}[:row.n])
			}
			m := made(t, before)
			if asked == r {
				if got, err := m.Load(row.l, row.at, row.n); got != word || err != row.err {
					t.Errorf("%s: Load(%v, %d, %d) tells %d, %d; want %d, %d", row.name, row.l, row.at, row.n, got, err, word, row.err)
				}
			} else if err := m.Store(row.l, row.at, row.n, 0xaabbccdd); err != row.err {
				t.Errorf("%s: Store(%v, %d, %d) tells %d, want %d", row.name, row.l, row.at, row.n, err, row.err)
			}
			holds(t, row.name, m, behind)
		}
	}
}

// P6.3: each sum of rights, and what it lets be.
func TestRights(t *testing.T) {
	for sum := range uint8(8) {
		l := list(region(0, 8, sum))
		m := made(t, sample.Text(8))
		told := func(right uint8) api.Errno {
			if sum&right != 0 {
				return api.OK
			}
			return api.ErrBounds
		}
		if _, err := m.Load(l, 0, 4); err != told(r) {
			t.Errorf("rights %d: Load tells %d", sum, err)
		}
		if b, err := m.Fetch(l, 0); err != told(x) || err != api.OK && len(b) != 0 {
			t.Errorf("rights %d: Fetch tells %v, %d", sum, b, err)
		}
		if err := m.Store(l, 0, 4, 1); err != told(w) {
			t.Errorf("rights %d: Store tells %d", sum, err)
		}
	}
}

// P6.3: Fetch of 8 bytes, where they lie in the regions and in a memory of 20 bytes.
func TestFetch(t *testing.T) {
	rows := []struct {
		name string
		l    []api.Region
		at   uint32
		err  api.Errno
	}{
		{"at the beginning", list(region(0, 20, x)), 0, api.OK},
		{"at a place that 8 does not part", list(region(0, 20, x)), 3, api.OK},
		{"up to the memory's end", list(region(0, 20, x)), 12, api.OK},
		{"up to the memory's end, a region past it", list(region(0, 100, x)), 12, api.OK},
		{"one byte past it", list(region(0, 20, x)), 13, api.ErrBounds},
		{"one byte past it, a region past it", list(region(0, 100, x)), 13, api.ErrBounds},
		{"just behind it, a region past it", list(region(0, 100, x)), 20, api.ErrBounds},
		{"far behind it, a region past it", list(region(0, top, x)), 1 << 20, api.ErrBounds},
		{"just the region", list(region(4, 8, r+x)), 4, api.OK},
		{"one byte ahead of the region", list(region(4, 8, r+x)), 3, api.ErrBounds},
		{"one byte past the region", list(region(4, 8, r+x)), 5, api.ErrBounds},
		{"a region of 7 bytes", list(region(4, 7, x)), 4, api.ErrBounds},
		{"in two regions only together", list(region(0, 8, x), region(8, 8, x)), 4, api.ErrBounds},
		{"without RightX", list(region(0, 20, r+w)), 0, api.ErrBounds},
		{"without any right", list(region(0, 20, 0)), 0, api.ErrBounds},
		{"the first without RightX", list(region(0, 20, r+w), region(0, 20, x)), 8, api.OK},
		{"with all rights", list(region(0, 20, r+w+x)), 8, api.OK},
		{"no region", nil, 0, api.ErrBounds},
		{"past 2^32", list(region(top-3, 100, x)), top - 3, api.ErrBounds},
		{"past 2^32, as if from 0 on", list(region(0, 20, x)), top, api.ErrBounds},
		{"up to 2^32", list(region(top-7, 8, x)), top - 7, api.ErrBounds},
	}
	before := sample.Text(20)
	m := made(t, before)
	for _, row := range rows {
		var want []byte
		if row.err == api.OK {
			want = before[row.at : row.at+8]
		}
		if b, err := m.Fetch(row.l, row.at); err != row.err || !bytes.Equal(b, want) {
			t.Errorf("%s: Fetch(%v, %d) tells %v, %d; want %v, %d", row.name, row.l, row.at, b, err, want, row.err)
		}
		holds(t, row.name, m, before)
	}
}

// P6.2, P6.3: a memory of no bytes has none to tell or change.
func TestNoBytes(t *testing.T) {
	p := twinOf(t, nil)
	over := list(region(0, top, r+w+x))
	for _, at := range numbers(3) {
		p.get(at, 0)
		p.get(at, 1)
		p.zero(at, 0)
		p.zero(at, 1)
		p.put(at, nil)
		p.put(at, []byte{1})
		for n := range uint8(9) {
			p.load(over, at, n)
			p.store(over, at, n, 1)
		}
		p.fetch(over, at)
	}
}

// P6.2, P6.3, R2: which error comes first, where more than one holds (of nil: TestNil).
func TestFirstError(t *testing.T) {
	before := []byte{1, 2, 3, 4}
	m := made(t, before)
	for _, n := range []uint8{0, 3, 5, 8, 255} {
		for _, l := range [][]api.Region{nil, list(region(0, 4, x)), list(region(100, 8, r+w))} {
			for _, at := range []uint32{0, 4, 100, top} {
				if word, err := m.Load(l, at, n); word != 0 || err != api.ErrArg {
					t.Errorf("Load(%v, %d, %d) tells %d, %d", l, at, n, word, err)
				}
				if err := m.Store(l, at, n, 7); err != api.ErrArg {
					t.Errorf("Store(%v, %d, %d, 7) tells %d", l, at, n, err)
				}
			}
		}
	}
	for _, n := range []uint8{1, 2, 4} {
		// Neither there, nor let be by any region.
		if word, err := m.Load(nil, 4, n); word != 0 || err != api.ErrBounds {
			t.Errorf("Load(nil, 4, %d) tells %d, %d", n, word, err)
		}
		if err := m.Store(nil, 4, n, 7); err != api.ErrBounds {
			t.Errorf("Store(nil, 4, %d, 7) tells %d", n, err)
		}
	}
	if b, err := m.Fetch(nil, top); len(b) != 0 || err != api.ErrBounds {
		t.Errorf("Fetch(nil, %d) tells %v, %d", uint32(top), b, err)
	}
	holds(t, "errors", m, before)
}

// R3: bytes that were told or handed in, changed afterwards, change nothing here; nor do later changes here change them.
func TestBytesGoByThemselves(t *testing.T) {
	before := []byte{1, 2, 3, 4, 5, 6, 7, 8}
	l := list(region(0, 8, r+w+x))
	given := slices.Clone(before)
	m, _ := mem.New(8)
	m.Put(0, given)
	clear(given)
	holds(t, "bytes handed to Put, changed", m, before)

	got, _ := m.Get(0, 8)
	part, _ := m.Get(2, 3)
	fetched, _ := m.Fetch(l, 0)
	for _, b := range [][]byte{got, part, fetched} {
		for k := range b {
			b[k] += 100
		}
		// What is behind an answer's end is no more the memory's than what it tells.
		_ = append(b, 99, 99, 99)
	}
	holds(t, "bytes that were told, changed", m, before)

	again, _ := m.Get(0, 8)
	fetchedAgain, _ := m.Fetch(l, 0)
	given = []byte{50, 60}
	m.Put(0, given)
	m.Zero(2, 2)
	m.Store(l, 4, 4, top)
	holds(t, "behind all of it", m, []byte{50, 60, 0, 0, 255, 255, 255, 255})
	if !bytes.Equal(again, before) || !bytes.Equal(fetchedAgain, before) {
		t.Errorf("what was told is changed later: %v, %v", again, fetchedAgain)
	}
	if !bytes.Equal(given, []byte{50, 60}) {
		t.Errorf("what was handed in is changed: %v", given)
	}
}

// R3: a memory's bytes, told and put elsewhere in it, are moved as they were.
func TestBytesPutElsewhere(t *testing.T) {
	m := made(t, []byte{1, 2, 3, 4, 5, 6})
	b, _ := m.Get(0, 4)
	m.Put(2, b)
	holds(t, "moved up", m, []byte{1, 2, 1, 2, 3, 4})
	b, _ = m.Get(1, 5)
	m.Put(0, b)
	holds(t, "moved down", m, []byte{2, 1, 2, 3, 4, 4})
}

// R3: neither regions nor bytes that are handed in are changed, nor what lies behind them.
func TestNothingHandedInIsChanged(t *testing.T) {
	row := sample.From(1)
	for range 500 {
		whole := append(someOf(row, 6), region(0, 24, r+w+x), region(4, 4, r))
		before := slices.Clone(whole)
		l := whole[:len(whole)-1]
		b := row.Bytes(12)
		bytesBefore := slices.Clone(b)
		m := made(t, sample.Text(24))
		at := uint32(row.Below(24))
		m.Put(at, b[:8])
		m.Load(l, at, 2)
		m.Store(l, at, 2, 7)
		m.Fetch(l, at)
		if !slices.Equal(whole, before) || !bytes.Equal(b, bytesBefore) {
			t.Fatalf("what was handed in is changed: %v, %v", whole, b)
		}
	}
}

// P6.2 to P6.4: any calls, one behind the other, as the words say it byte by byte; what tells an error changes nothing.
func TestCallsByTheWords(t *testing.T) {
	row := sample.From(2)
	told := map[api.Errno]int{}
	place := func() uint32 {
		if row.Below(8) == 0 {
			return top - uint32(row.Below(9))
		}
		return uint32(row.Below(28))
	}
	for range 200 {
		p := twinOf(t, row.Bytes(24))
		for range 300 {
			l := someOf(row, 5)
			switch row.Below(7) {
			case 0:
				p.zero(place(), uint32(row.Below(6)))
			case 1:
				p.put(place(), row.Bytes(row.Below(6)))
			case 2:
				p.get(place(), place())
			case 3:
				told[p.load(l, place(), uint8(row.Below(6)))]++
			case 4:
				told[p.fetch(l, place())]++
			case 5:
				p.m = p.m.Copy()
			default:
				told[p.store(l, place(), uint8(row.Below(6)), uint32(row.Next()))]++
			}
		}
	}
	for _, err := range []api.Errno{api.OK, api.ErrArg, api.ErrBounds} {
		if told[err] < 1000 {
			t.Errorf("%d was told only %d times", err, told[err])
		}
	}
}

// kept is a word that was stored.
type kept struct {
	at   uint32
	n    uint8
	word uint32
}

// touches tells whether a word has some of these bytes.
func (k kept) touches(at, n uint32) bool { return k.at < at+n && at < k.at+uint32(k.n) }

// P6.4: what was stored is loaded, till some of its bytes are changed; a Store changes no byte but its own, and none that the regions do not let it.
func TestStoredIsLoaded(t *testing.T) {
	row := sample.From(3)
	const size = 48
	whole := list(region(0, size, r))
	loaded := 0
	for range 100 {
		m := made(t, row.Bytes(size))
		var stored []kept
		for range 200 {
			l := someOf(row, 4)
			before := all(m)
			next := kept{uint32(row.Below(size - 4)), uint8(1 << row.Below(3)), uint32(row.Next())}
			if m.Store(l, next.at, next.n, next.word) == api.OK {
				stored = slices.DeleteFunc(stored, func(k kept) bool { return k.touches(next.at, uint32(next.n)) })
				stored = append(stored, next)
			} else {
				holds(t, "a Store that tells an error", m, before)
			}
			for at, y := range all(m) {
				own := next.touches(uint32(at), 1)
				if y != before[at] && (!own || !model(before).lets(l, uint32(at), 1, w)) {
					t.Fatalf("Store(%v, %v) changes byte %d", l, next, at)
				}
			}
			if row.Below(4) == 0 {
				at := uint32(row.Below(size - 4))
				m.Zero(at, 3)
				stored = slices.DeleteFunc(stored, func(k kept) bool { return k.touches(at, 3) })
			}
			for _, k := range stored {
				word, err := m.Load(whole, k.at, k.n)
				if want := uint32(uint64(k.word) % (1 << (8 * k.n))); word != want || err != api.OK {
					t.Fatalf("stored was %v, loaded %d, %d", k, word, err)
				}
				loaded++
			}
		}
	}
	if loaded < 10000 {
		t.Errorf("only %d words were loaded", loaded)
	}
}
