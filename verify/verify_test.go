package verify_test

import (
	"math"
	"reflect"
	"slices"
	"testing"
	"time"

	"tappet/api"
	"tappet/cost"
	"tappet/height"
	"tappet/sample"
	"tappet/verify"
)

const maxCode = 16384

// all are readers of which each partition from 0 to 31 is one.
const all = math.MaxUint32

// portOps are those with a port, asksB and writes those of them that ask B, and that its writer alone may do.
var (
	portOps = []uint8{api.OpRead, api.OpAge, api.OpPut, api.OpSend}
	asksB   = []uint8{api.OpRead, api.OpPut}
	writes  = []uint8{api.OpPut, api.OpSend}
)

// fault is an error, and the number of the instruction where it is.
type fault struct {
	n   int
	err api.Errno
}

// example answers the configuration of the chapter's table.
func example() api.Config {
	return api.Config{
		Parts: []api.PartDef{{Stack: 4}, {Stack: 4}},
		Ports: []api.PortDef{{Words: 2, Writer: 1, Readers: 1}},
		Field: api.FieldDef{Ins: 1, Safe: []uint32{0}, Readers: 1},
	}
}

// open answers a configuration of two partitions, with as many ports, words, inputs and outputs as there may be: the first writes all, and reads all inputs.
func open() api.Config {
	return api.Config{
		Parts: []api.PartDef{{Stack: 4}, {Stack: 4}},
		Ports: slices.Repeat([]api.PortDef{{Words: 16}}, 16),
		Field: api.FieldDef{Ins: 16, Safe: make([]uint32, 16), Readers: 1},
	}
}

// owns fails the test unless Own tells of the instruction that it is the partition's to do, or that it is not, as told.
func owns(t *testing.T, i api.Instr, part int, c api.Config, want bool) {
	t.Helper()
	wantErr := errOf(i.Op)
	if want {
		wantErr = api.OK
	}
	if err := verify.Own(i, part, c); err != wantErr {
		t.Fatalf("Own(%v, %d, %d ports, %+v) tells %d; want %d", i, part, len(c.Ports), c.Field, err, wantErr)
	}
}

// tells fails the test unless Check answers this summary.
func tells(t *testing.T, l []api.Instr, part int, c api.Config, want api.Summary) {
	t.Helper()
	if got, n, err := verify.Check(l, part, c); got != want || n != 0 || err != api.OK {
		t.Fatalf("Check(%s, %d, %+v) tells %+v, %d, %d; want %+v", sample.Short(l), part, c, got, n, err, want)
	}
}

// errs fails the test unless Check tells this error, with this number, and nothing beside it.
func errs(t *testing.T, l []api.Instr, part int, c api.Config, wantN int, want api.Errno) {
	t.Helper()
	if got, n, err := verify.Check(l, part, c); got != (api.Summary{}) || n != wantN || err != want {
		t.Fatalf("Check(%s, %d, %+v) tells %+v, %d, %d; want %d, %d", sample.Short(l), part, c, got, n, err, wantN, want)
	}
}

// P14.2: the chapter's table.
func TestExamples(t *testing.T) {
	c := example()
	tells(t, sample.Code("in 0, read 0 1, add, out 0, yield"), 0, c, api.Summary{Height: 2, Fuel: 5, Reads: 1, Ins: 1, Outs: 1})
	errs(t, sample.Code("push 1, put 0 0, yield"), 0, c, 1, api.ErrPort)
	errs(t, sample.Code("in 1, drop, yield"), 0, c, 0, api.ErrField)
	errs(t, sample.Code("push 1, out 1, yield"), 0, c, 1, api.ErrField)
	tells(t, sample.Code("push 1, zero 0, yield"), 0, c, api.Summary{Height: 1})
}

// P14.1: of a port that is there, and of one that is not, by what the partition is to it; the other ports are otherwise.
func TestOwnPort(t *testing.T) {
	const part, other = 3, 5
	for _, x := range []struct {
		writer          int
		readers         uint32
		mayRead, mayPut bool
	}{
		{other, 0, false, false}, {other, all &^ (1 << part), false, false},
		{other, 1 << part, true, false}, {other, all, true, false},
		{part, 0, true, true}, {part, all &^ (1 << part), true, true},
		{part, 1 << part, true, true}, {part, all, true, true},
	} {
		for count := 1; count <= 16; count++ {
			for n := range count {
				fellow := api.PortDef{Words: 16, Writer: part, Readers: all}
				if x.mayPut {
					fellow = api.PortDef{Words: 16, Writer: other}
				}
				c := api.Config{Ports: slices.Repeat([]api.PortDef{fellow}, count)}
				c.Ports[n] = api.PortDef{Words: 1, Writer: x.writer, Readers: x.readers}
				for _, op := range portOps {
					mine := x.mayRead
					if slices.Contains(writes, op) {
						mine = x.mayPut
					}
					owns(t, api.Instr{Op: op, A: uint8(n)}, part, c, mine)
					for _, past := range []int{count, count + 1, 16, 17, 128, 255} {
						if past >= count {
							owns(t, api.Instr{Op: op, A: uint8(past)}, part, c, false)
						}
					}
				}
			}
		}
	}
}

// P14.1: no ports, no inputs and no outputs: nothing with them is whoever's.
func TestOwnNone(t *testing.T) {
	for _, c := range []api.Config{
		{}, {Ports: []api.PortDef{}, Field: api.FieldDef{Safe: []uint32{}, Readers: all}}, {Parts: make([]api.PartDef, 8), Field: api.FieldDef{Readers: all}},
	} {
		for _, part := range sample.Edges() {
			c.Field.Writer = part
			for op := range 256 {
				for _, a := range []uint8{0, 1, 15, 16, 255} {
					i := api.Instr{Op: uint8(op), A: a}
					owns(t, i, part, c, errOf(i.Op) == api.OK)
				}
			}
		}
	}
}

// P14.1: more ports, inputs and outputs than A can name: one past these is not told as the one that A names.
func TestOwnMany(t *testing.T) {
	const part = 2
	for _, count := range []int{1, 2, 15, 16, 17, 128, 255, 256, 257, 300, 512, 1000} {
		c := api.Config{Ports: make([]api.PortDef, count), Field: api.FieldDef{Ins: count, Safe: make([]uint32, count), Readers: 1 << part, Writer: part}}
		for _, evenAreMine := range []bool{false, true} {
			for n := range c.Ports {
				mine := (n%2 == 0) == evenAreMine
				if n >= 256 {
					mine = !mine
				}
				c.Ports[n] = api.PortDef{Words: 1, Writer: 5}
				if mine {
					c.Ports[n].Writer = part
				}
			}
			for a := range 256 {
				for _, op := range portOps {
					owns(t, api.Instr{Op: op, A: uint8(a)}, part, c, a < count && (a%2 == 0) == evenAreMine)
				}
				owns(t, api.Instr{Op: api.OpIn, A: uint8(a)}, part, c, a < count)
				owns(t, api.Instr{Op: api.OpOut, A: uint8(a)}, part, c, a < count)
			}
		}
	}
}

// P14.1: B of OpRead and OpPut is below the port's Words, whatever these are; of OpAge and OpSend it is not asked.
func TestOwnB(t *testing.T) {
	const part = 1
	for _, words := range append(sample.Edges(), 10, 11, 65534, 65535, 65536, 65537, 131072, math.MinInt+1, math.MaxInt-1, -65536, -1<<32, 1<<32+16) {
		c := api.Config{Ports: []api.PortDef{{Words: 3, Writer: part}, {Words: words, Writer: part}, {Words: 100, Writer: part}}}
		bs := []int{0, 1, 2, 3, 15, 16, 17, 255, 256, 257, 32767, 32768, 65534, 65535, words - 1, words, words + 1}
		for _, b := range bs {
			if b < 0 || b > 65535 {
				continue
			}
			for _, op := range portOps {
				owns(t, api.Instr{Op: op, A: 1, B: uint16(b)}, part, c, b < words || !slices.Contains(asksB, op))
			}
		}
	}
	for words := range 18 {
		c := api.Config{Ports: []api.PortDef{{Words: words, Writer: 7, Readers: 1 << part}}}
		for b := range 20 {
			owns(t, api.Instr{Op: api.OpRead, B: uint16(b)}, part, c, b < words)
			owns(t, api.Instr{Op: api.OpAge, B: uint16(b)}, part, c, true)
			owns(t, api.Instr{Op: api.OpPut, B: uint16(b)}, part, c, false)
			owns(t, api.Instr{Op: api.OpSend, B: uint16(b)}, part, c, false)
		}
	}
}

// P14.1: A of OpIn is below Ins, whatever that is, and the partition one of the field's readers; that it is the writer makes no difference.
func TestOwnIn(t *testing.T) {
	const part = 4
	for _, ins := range append(sample.Edges(), 14, 128, 254, 258, math.MinInt+1, math.MaxInt-1, -1<<32, 1<<32+16) {
		for _, writer := range []int{part, 0} {
			for a := range 256 {
				i := api.Instr{Op: api.OpIn, A: uint8(a)}
				f := api.FieldDef{Ins: ins, Safe: make([]uint32, 16), Writer: writer}
				for _, readers := range []uint32{0, all &^ (1 << part), 1 << part, all} {
					f.Readers = readers
					owns(t, i, part, api.Config{Field: f}, a < ins && readers&(1<<part) != 0)
				}
			}
		}
	}
}

// P14.1: A of OpOut is the number of a word of Safe, and the partition the field's writer; that it is one of the readers makes no difference, nor does what the words are.
func TestOwnOut(t *testing.T) {
	const part = 4
	for _, outs := range []int{0, 1, 2, 15, 16, 17, 255, 256, 257, 600} {
		for _, readers := range []uint32{0, all, 1 << part} {
			for a := range 256 {
				i := api.Instr{Op: api.OpOut, A: uint8(a)}
				f := api.FieldDef{Ins: 16, Safe: slices.Repeat([]uint32{9}, outs), Readers: readers}
				for _, writer := range []int{part, 0, 3, 5, -part, part + 32, part + 256, part + 1<<32, part - 1<<32, math.MinInt, math.MaxInt} {
					f.Writer = writer
					owns(t, i, part, api.Config{Field: f}, a < outs && writer == part)
				}
			}
		}
	}
}

// P14.1: partitions from 0 to 31 are told bit by bit, others read nothing whatever the bits are; each may be a writer.
func TestOwnParts(t *testing.T) {
	parts := append(sample.Edges(), 30, 34, 62, -31, -32, -33, math.MinInt+1, math.MaxInt-1, 1<<32+31, -1<<32, 1<<63-32)
	sets := []uint32{0, all, 0x55555555, 0xaaaaaaaa}
	for n := range 32 {
		sets = append(sets, 1<<n, ^uint32(1<<n))
	}
	for _, part := range parts {
		for _, set := range sets {
			reads := part >= 0 && part < 32 && set/uint32(math.Pow(2, float64(max(part, 0)%32)))%2 == 1
			for _, writer := range []int{part, part ^ 1, part ^ 32, part ^ 1<<40, part ^ math.MinInt, 0, -1} {
				is := writer == part
				c := api.Config{Ports: []api.PortDef{{Words: 1, Writer: writer, Readers: set}}, Field: api.FieldDef{Ins: 1, Safe: []uint32{0}, Readers: set, Writer: writer}}
				owns(t, api.Instr{Op: api.OpRead}, part, c, reads || is)
				owns(t, api.Instr{Op: api.OpAge}, part, c, reads || is)
				owns(t, api.Instr{Op: api.OpPut}, part, c, is)
				owns(t, api.Instr{Op: api.OpSend}, part, c, is)
				owns(t, api.Instr{Op: api.OpIn}, part, c, reads)
				owns(t, api.Instr{Op: api.OpOut}, part, c, is)
			}
		}
	}
}

// P14.1: any other Op is whoever's, also such as are no instruction's, whatever A, B and C are.
func TestOwnOthers(t *testing.T) {
	for op := range 256 {
		if errOf(uint8(op)) != api.OK {
			continue
		}
		for _, a := range []uint8{0, 1, 2, 3, 4, 15, 16, 17, 255} {
			for _, b := range []uint16{0, 1, 15, 16, 65535} {
				for _, x := range []uint32{0, 1, 16384, math.MaxUint32} {
					i := api.Instr{Op: uint8(op), A: a, B: b, C: x}
					for _, part := range []int{0, 1, 31, 32, -1, math.MinInt, math.MaxInt} {
						owns(t, i, part, api.Config{}, true)
						owns(t, i, part, example(), true)
					}
				}
			}
		}
	}
}

// P14.1: what an instruction is not asked makes no difference: C of all, B of such as name none.
func TestOwnNotAsked(t *testing.T) {
	for part, c := range []api.Config{example(), example(), open(), open()} {
		for op := range 256 {
			for a := range 18 {
				i := api.Instr{Op: uint8(op), A: uint8(a)}
				want := verify.Own(i, part%2, c)
				for _, x := range []uint32{1, 16, 1 << 16, 1 << 31, math.MaxUint32} {
					i.C = x
					owns(t, i, part%2, c, want == api.OK)
					if slices.Contains(asksB, i.Op) {
						continue
					}
					for _, b := range []uint16{1, 15, 16, 255, 256, 65535} {
						i.B = b
						owns(t, i, part%2, c, want == api.OK)
					}
				}
			}
		}
	}
}

// P14.1: random instructions in random configurations.
func TestOwnByTheWords(t *testing.T) {
	row := sample.From(1)
	seen := map[uint8][2]int{}
	for range 20_000 {
		c, part := configOf(row)
		for range 10 {
			i := likeOf(row)
			want := ownOf(i, part, c)
			if err := verify.Own(i, part, c); err != want {
				t.Fatalf("Own(%v, %d, %+v) tells %d; want %d", i, part, c, err, want)
			}
			counts := seen[i.Op]
			if want == api.OK {
				counts[0]++
			} else {
				counts[1]++
			}
			seen[i.Op] = counts
		}
	}
	for op := api.OpIn; op <= api.OpSend; op++ {
		if counts := seen[op]; counts[0] < 3000 || counts[1] < 3000 {
			t.Errorf("of Op %d there were %d that are the partition's, and %d that are not", op, counts[0], counts[1])
		}
	}
}

// P14.2: a partition that is not there is told ahead of everything else, with the number 0.
func TestArg(t *testing.T) {
	programs := [][]api.Instr{
		nil, {}, sample.Code("yield"), sample.Code("dup, yield"), sample.Code("dup"), sample.Code("push 1, jump 9"), {{Op: api.OpYield}, {Op: 28}}, make([]api.Instr, maxCode+1),
		sample.Code("push 1, in 9, drop, drop, yield"), sample.Code("push 1, put 9 0, yield"), sample.Code("jump 0"),
	}
	for count := range 10 {
		for _, stack := range []int{4, 0, -1, 65} {
			c := open()
			c.Parts = slices.Repeat([]api.PartDef{{Stack: stack}}, count)
			for _, part := range append(sample.Edges(), count-1, count, count+1, -count, math.MinInt+1, math.MaxInt-1, count+1<<32) {
				for _, l := range programs {
					_, _, err := verify.Check(l, part, c)
					if part < 0 || part >= count {
						errs(t, l, part, c, 0, api.ErrArg)
					} else if err == api.ErrArg {
						t.Fatalf("Check(%s, %d, of %d) tells ErrArg", sample.Short(l), part, count)
					}
				}
			}
		}
	}
	for _, c := range []api.Config{{}, {Parts: []api.PartDef{}}} {
		errs(t, sample.Code("yield"), 0, c, 0, api.ErrArg)
	}
}

// P14.2: each error of height, with its number, ahead of Own's, wherever that would be.
func TestHeightFirst(t *testing.T) {
	c := example()
	for text, want := range map[string]fault{
		"in 9":                                 {0, api.ErrEnd},
		"in 9, drop":                           {1, api.ErrEnd},
		"in 9, jump 2":                         {1, api.ErrJump},
		"in 9, zero 5, yield":                  {1, api.ErrJump},
		"in 9, drop, drop, yield":              {2, api.ErrUnder},
		"put 9 9, yield":                       {0, api.ErrUnder},
		"push 1, in 9, add, out 7, dup, yield": {4, api.ErrUnder},
		"in 9, read 9 9, age 9, in 9, in 9, yield":    {4, api.ErrOver},
		"in 9, zero 3, push 7, yield":                 {3, api.ErrHeight},
		"send 9, in 9, jump 0":                        {0, api.ErrHeight},
		"send 9, jump 3, drop, in 9, jump 5, jump 3":  {3, api.ErrHeight},
		"jump 3, drop, yield, send 9, jump 1":         {1, api.ErrUnder},
		"jump 4, drop, send 9, yield, read 9 9, dup":  {5, api.ErrEnd},
		"out 1, send 9, push 1, zero 9, yield, yield": {3, api.ErrJump},
	} {
		for part := range 2 {
			errs(t, sample.Code(text), part, c, want.n, want.err)
		}
	}
	amiss := append(sample.Code("in 9, drop, yield"), api.Instr{Op: api.OpIn, A: 16})
	errs(t, amiss, 0, c, 3, api.ErrOp)
	errs(t, sample.With(amiss, 0, api.Instr{Op: api.OpRead, B: 16}), 0, c, 0, api.ErrOp)
	errs(t, slices.Repeat(sample.Code("in 9"), maxCode+1), 0, c, 0, api.ErrLong)
	errs(t, nil, 0, c, 0, api.ErrEnd)
	errs(t, []api.Instr{}, 0, c, 0, api.ErrEnd)
}

// P14.2: as many words may stand as the partition's own Stack is, whatever the others' are.
func TestStack(t *testing.T) {
	programs := []string{"yield", "push 1, drop, yield", "push 1, push 2, add, drop, yield", "in 9, read 9 9, drop, drop, yield", "jump 0", "dup, yield", "push 1, jump 0"}
	stacks := append(sample.Edges(), 10, 62, 66, -63, -65, math.MinInt+1, math.MaxInt-1, 1<<32+2)
	for _, stack := range stacks {
		for part := range 3 {
			c := example()
			c.Parts = []api.PartDef{{Stack: 1}, {Stack: 2}, {Stack: -1}}
			c.Parts[part].Stack = stack
			for _, text := range programs {
				l := sample.Code(text)
				_, n, err := height.Heights(l, stack)
				if err != api.OK {
					errs(t, l, part, c, n, err)
				} else if _, _, err := verify.Check(l, part, c); err != ownOf(l[0], part, c) {
					t.Fatalf("Check(%s, %d, %+v) tells %d", text, part, c, err)
				}
			}
			if stack < 0 || stack > 64 {
				errs(t, sample.Code("yield"), part, c, 0, api.ErrRange)
				errs(t, sample.Code("in 9, drop"), part, c, 0, api.ErrRange)
			}
		}
	}
	c := example()
	c.Parts = []api.PartDef{{Stack: 1}, {Stack: 2}}
	two := sample.Code("push 1, push 2, add, drop, yield")
	errs(t, two, 0, c, 1, api.ErrOver)
	tells(t, two, 1, c, api.Summary{Height: 2, Fuel: 5})
	c.Parts = []api.PartDef{{Stack: 64}, {Stack: 0}}
	tells(t, two, 0, c, api.Summary{Height: 2, Fuel: 5})
	errs(t, two, 1, c, 0, api.ErrOver)
	tells(t, sample.Code("yield"), 1, c, api.Summary{Fuel: 1})
}

// P14.2: Own's error, of the first instruction that is come to and is not the partition's: by its number, not by when it is come to.
func TestOwnError(t *testing.T) {
	c := example()
	for text, want := range map[string]fault{
		"in 1, drop, read 5 0, drop, yield":                                {0, api.ErrField},
		"read 5 0, drop, in 1, drop, yield":                                {0, api.ErrPort},
		"read 0 2, drop, in 1, drop, yield":                                {0, api.ErrPort},
		"in 0, drop, read 0 0, drop, age 0, drop, send 0, yield":           {6, api.ErrPort},
		"in 0, out 0, read 0 0, out 0, age 1, out 1, yield":                {4, api.ErrPort},
		"in 0, out 0, read 0 0, out 1, age 1, drop, yield":                 {3, api.ErrField},
		"jump 2, in 9, in 1, drop, yield":                                  {2, api.ErrField},
		"jump 3, send 9, in 9, age 1, drop, yield":                         {3, api.ErrPort},
		"jump 4, in 1, drop, yield, read 3 0, drop, jump 1":                {1, api.ErrField},
		"jump 6, age 7, drop, yield, in 5, drop, read 3 0, drop, jump 1":   {1, api.ErrPort},
		"push 1, zero 4, send 0, yield, in 5, drop, yield":                 {2, api.ErrPort},
		"push 1, zero 4, yield, send 0, in 5, drop, yield":                 {4, api.ErrField},
		"jump 4, yield, send 0, yield, push 1, zero 2, in 5, drop, jump 1": {2, api.ErrPort},
		"send 9, jump 0":         {0, api.ErrPort},
		"jump 1, send 9, jump 0": {1, api.ErrPort},
	} {
		errs(t, sample.Code(text), 0, c, want.n, want.err)
	}
	tells(t, sample.Code("jump 2, in 9, yield"), 0, c, api.Summary{Fuel: 2})
	tells(t, sample.Code("jump 3, send 9, jump 1, yield, in 9, out 9, read 9 9, put 9 9, age 9, yield"), 0, c, api.Summary{Fuel: 2})
}

// P14.2: each Op that names a port, an input or an output, with a partition whose it is, and with one whose it is not, and each A and B.
func TestOwnErrorOfEach(t *testing.T) {
	for a := range 16 {
		for text, is := range map[string]api.Instr{
			"in":   {Op: api.OpIn, A: uint8(a)},
			"out":  {Op: api.OpOut, A: uint8(a)},
			"read": {Op: api.OpRead, A: uint8(a), B: uint16(15 - a)},
			"age":  {Op: api.OpAge, A: uint8(a)},
			"put":  {Op: api.OpPut, A: uint8(a), B: uint16(15 - a)},
			"send": {Op: api.OpSend, A: uint8(a)},
		} {
			l := sample.With(sample.Code("push 1, push 2, push 3, yield"), 2, is)
			if _, n, err := verify.Check(l, 0, open()); n != 0 || err != api.OK {
				t.Errorf("%s %d, by its own partition: %d, %d", text, a, n, err)
			}
			errs(t, l, 1, open(), 2, errOf(is.Op))
		}
	}
}

// P14.2: the ports, inputs and outputs that are come to, bit by bit: none, one, several, the same one twice, 0 and the last one there is.
func TestBits(t *testing.T) {
	c := open()
	c.Parts[0].Stack = 64
	tells(t, sample.Code("yield"), 0, c, api.Summary{Fuel: 1})
	for a := range 16 {
		bit, n := uint32(1)<<a, uint8(a)
		in, out, age, send := api.Instr{Op: api.OpIn, A: n}, api.Instr{Op: api.OpOut, A: n}, api.Instr{Op: api.OpAge, A: n}, api.Instr{Op: api.OpSend, A: n}
		push, drop, yield := api.Instr{Op: api.OpPush}, api.Instr{Op: api.OpDrop}, api.Instr{Op: api.OpYield}
		tells(t, []api.Instr{in, drop, yield}, 0, c, api.Summary{Height: 1, Fuel: 3, Ins: bit})
		tells(t, []api.Instr{push, out, yield}, 0, c, api.Summary{Height: 1, Fuel: 3, Outs: bit})
		tells(t, []api.Instr{age, drop, yield}, 0, c, api.Summary{Height: 1, Fuel: 3, Reads: bit})
		tells(t, []api.Instr{send, yield}, 0, c, api.Summary{Fuel: 2, Writes: bit})
		for b := range 16 {
			read, put := api.Instr{Op: api.OpRead, A: n, B: uint16(b)}, api.Instr{Op: api.OpPut, A: n, B: uint16(b)}
			tells(t, []api.Instr{read, drop, yield}, 0, c, api.Summary{Height: 1, Fuel: 3, Reads: bit})
			tells(t, []api.Instr{push, put, yield}, 0, c, api.Summary{Height: 1, Fuel: 3, Writes: bit})
			tells(t, []api.Instr{read, put, read, put, age, put, send, send, yield}, 0, c, api.Summary{Height: 1, Fuel: 9, Reads: bit, Writes: bit})
		}
		tells(t, []api.Instr{in, in, out, out, in, out, yield}, 0, c, api.Summary{Height: 2, Fuel: 7, Ins: bit, Outs: bit})
	}
	several := "in 0, out 15, in 15, out 0, in 7, out 8, read 0 0, put 15 15, read 15 1, put 3 0, age 9, drop, send 1, send 0, age 0, drop, yield"
	tells(t, sample.Code(several), 0, c, api.Summary{Height: 1, Fuel: 17, Ins: 0x8081, Outs: 0x8101, Reads: 0x8201, Writes: 0x800b})
	var l []api.Instr
	for a := range uint8(16) {
		l = append(l, api.Instr{Op: api.OpIn, A: a}, api.Instr{Op: api.OpOut, A: a}, api.Instr{Op: api.OpAge, A: a}, api.Instr{Op: api.OpPut, A: a})
	}
	l = append(l, api.Instr{Op: api.OpYield})
	tells(t, l, 0, c, api.Summary{Height: 1, Fuel: 65, Ins: 0xffff, Outs: 0xffff, Reads: 0xffff, Writes: 0xffff})
}

// P14.2: what is not come to adds no bit, no word and no fuel; what is come to on one way alone does.
func TestComeTo(t *testing.T) {
	c := open()
	tells(t, sample.Code("yield, in 1, out 1, read 1 1, put 1 1, age 1, drop, send 1, yield"), 0, c, api.Summary{Fuel: 1})
	tells(t, sample.Code("in 0, jump 8, in 1, out 1, read 1 1, put 1 1, send 1, jump 2, out 2, yield"), 0, c, api.Summary{Height: 1, Fuel: 4, Ins: 1, Outs: 4})
	tells(t, sample.Code("in 0, zero 5, in 1, out 1, jump 7, age 2, out 3, yield"), 0, c, api.Summary{Height: 1, Fuel: 6, Ins: 3, Outs: 10, Reads: 4})
	tells(t, sample.Code("jump 3, send 4, yield, in 0, zero 1, jump 7, send 5, yield"), 0, c, api.Summary{Height: 1, Fuel: 5, Ins: 1, Writes: 16})
	tells(t, sample.Code("yield, push 1, push 1, push 1, push 1, push 1, push 1, yield"), 0, c, api.Summary{Fuel: 1})
	tells(t, sample.Code("jump 2, jump 1, yield"), 0, c, api.Summary{Fuel: 2})
}

// P14.2: of a program with a loop Fuel is 0, and all else is told; Fuel is the worst of several ways, Height the most words anywhere.
func TestFuelHeight(t *testing.T) {
	c := open()
	tells(t, sample.Code("jump 0"), 0, c, api.Summary{})
	tells(t, sample.Code("in 3, drop, send 2, jump 0"), 0, c, api.Summary{Height: 1, Ins: 8, Writes: 4})
	tells(t, sample.Code("push 1, push 2, push 3, zero 2, out 15, out 0, yield"), 0, c, api.Summary{Height: 3, Outs: 0x8001})
	tells(t, sample.Code("in 0, zero 3, jump 2, read 7 0, out 1, yield"), 0, c, api.Summary{Height: 1, Ins: 1, Reads: 128, Outs: 2})
	errs(t, sample.Code("push 1, drop, send 2, jump 0"), 1, c, 2, api.ErrPort)
	tells(t, sample.Code("push 1, zero 4, yield, yield, push 1, push 1, push 1, push 1, yield"), 0, c, api.Summary{Height: 4, Fuel: 7})
	tells(t, sample.Code("push 1, zero 6, push 1, push 1, push 1, yield, yield"), 0, c, api.Summary{Height: 3, Fuel: 6})
	c.Parts[0].Stack = 64
	for count := range 65 {
		l := append(slices.Repeat(sample.Code("push 1"), count), api.Instr{Op: api.OpYield})
		tells(t, l, 0, c, api.Summary{Height: count, Fuel: uint32(count) + 1})
	}
}

// byTheWords fails the test unless Check tells what the words say; it answers the error.
func byTheWords(t *testing.T, l []api.Instr, part int, c api.Config) (api.Summary, api.Errno) {
	t.Helper()
	s, n, err := checkOf(l, part, c)
	if err != api.OK {
		errs(t, l, part, c, n, err)
	} else {
		tells(t, l, part, c, s)
	}
	return s, err
}

// P14.2: random programs in random configurations: such as most often are the partition's, with one thing of them turned, and whatever there is.
func TestByTheWords(t *testing.T) {
	row := sample.From(2)
	seen := map[api.Errno]int{}
	loops := 0
	for range 8000 {
		c, part := configOf(row)
		l := programOf(row, part, c, row.Below(3))
		n := row.Below(len(l))
		near := row.NearInstr(naming)
		for _, l := range [][]api.Instr{l, sample.With(l, n, near), sample.With(l, n, row.Within(len(l))), row.Amiss(1 + row.Below(20))} {
			s, err := byTheWords(t, l, part, c)
			seen[err]++
			if err == api.OK && s.Fuel == 0 {
				loops++
			}
		}
	}
	for _, err := range []api.Errno{api.OK, api.ErrArg, api.ErrRange, api.ErrOp, api.ErrJump, api.ErrEnd, api.ErrHeight, api.ErrUnder, api.ErrOver, api.ErrPort, api.ErrField} {
		if seen[err] < 300 {
			t.Errorf("of 32000 programs %d tell error %d", seen[err], err)
		}
	}
	if loops < 300 || seen[api.OK]-loops < 3000 {
		t.Errorf("of %d programs that may be %d have loops", seen[api.OK], loops)
	}
}

// P14.3: what is well stays well, with the same summary, where its partition may read more, and has a greater stack.
func TestWider(t *testing.T) {
	row := sample.From(3)
	well, newly := 0, 0
	for range 10_000 {
		c, part := configOf(row)
		l := programOf(row, part, c, 1)
		s, _, err := verify.Check(l, part, c)
		if part < 0 || part >= len(c.Parts) || c.Parts[part].Stack < 0 || c.Parts[part].Stack > 64 {
			continue
		}
		more := wider(row, part, c)
		if err == api.OK {
			well++
			tells(t, l, part, more, s)
		} else if _, _, err := verify.Check(l, part, more); err == api.OK {
			newly++
		}
	}
	if well < 3000 || newly < 300 {
		t.Errorf("%d programs are well, and %d in the wider configuration alone", well, newly)
	}
}

// P14.3: each bit of a port's and of the field's readers, and each greater stack, one at a time.
func TestWiderByOne(t *testing.T) {
	l := sample.Code("in 0, read 0 1, add, out 0, push 1, zero 8, read 0 0, out 0, yield")
	want := api.Summary{Height: 2, Fuel: 9, Reads: 1, Ins: 1, Outs: 1}
	for n := range 32 {
		c := example()
		c.Ports[0].Readers |= 1 << n
		tells(t, l, 0, c, want)
		c = example()
		c.Field.Readers |= 1 << n
		tells(t, l, 0, c, want)
	}
	for stack := range 65 {
		c := example()
		c.Parts[0].Stack = stack
		if stack < 2 {
			errs(t, l, 0, c, stack, api.ErrOver)
		} else {
			tells(t, l, 0, c, want)
		}
	}
}

// P14.2: the most instructions there may be, in rows, with as many branches as there can be, with loops; also where there are more ports than there may be.
func TestMaxCode(t *testing.T) {
	const last = maxCode - 1
	c := open()
	c.Ports = slices.Repeat(c.Ports, 100)
	c.Field.Ins, c.Field.Safe = math.MaxInt, make([]uint32, 10_000)
	yield := api.Instr{Op: api.OpYield}
	row := func(l []api.Instr) []api.Instr {
		return sample.Fill(maxCode, func(n int) api.Instr {
			if n == last {
				return yield
			}
			return l[n%len(l)]
		})
	}
	// Each push, and the OpZero behind it, that goes to where another push is.
	branches := func(at func(n int) int) []api.Instr {
		l := row(sample.Code("push 1, zero 0"))
		for n := 1; n < last; n += 2 {
			l[n].C = uint32(at(n)) &^ 1
		}
		l[last-1] = api.Instr{Op: api.OpSend, A: 15}
		return l
	}
	begin := time.Now()
	tells(t, row(sample.Code("send 15")), 0, c, api.Summary{Fuel: maxCode, Writes: 1 << 15})
	tells(t, row(sample.Code("in 15, out 15")), 0, c, api.Summary{Height: 1, Fuel: maxCode, Ins: 1 << 15, Outs: 1 << 15})
	tells(t, branches(func(n int) int { return n + 1 }), 0, c, api.Summary{Height: 1, Fuel: maxCode, Writes: 1 << 15})
	tells(t, branches(func(n int) int { return last - 1 }), 0, c, api.Summary{Height: 1, Fuel: maxCode, Writes: 1 << 15})
	tells(t, branches(func(n int) int { return n + (last-n)/2 }), 0, c, api.Summary{Height: 1, Fuel: maxCode, Writes: 1 << 15})
	tells(t, branches(func(n int) int { return 0 }), 0, c, api.Summary{Height: 1, Writes: 1 << 15})
	tells(t, sample.With(row(sample.Code("send 15")), last, api.Instr{Op: api.OpJump}), 0, c, api.Summary{Writes: 1 << 15})
	errs(t, sample.With(row(sample.Code("jump 16383")), last, api.Instr{Op: api.OpSend}), 0, c, last, api.ErrEnd)
	errs(t, sample.With(row(sample.Code("push 1, drop")), last-1, api.Instr{Op: api.OpSend}), 1, c, last-1, api.ErrPort)
	errs(t, row(sample.Code("send 15"))[:last], 0, c, last-1, api.ErrEnd)
	// Some milliseconds each are enough.
	if took := time.Since(begin); took > 5*time.Second {
		t.Errorf("all took %v", took)
	}
}

// P14.1, P14.2: partitions past 31 that are there read nothing, whatever the readers' bits are; they may write.
func TestManyParts(t *testing.T) {
	for _, part := range []int{0, 7, 8, 31, 32, 33, 63, 64, 69} {
		c := open()
		c.Parts = slices.Repeat(c.Parts, 35)
		c.Field.Readers = all
		for n := range c.Ports {
			c.Ports[n] = api.PortDef{Words: 1, Writer: n % 2 * part, Readers: all}
		}
		in, read := sample.Code("in 2, drop, yield"), sample.Code("read 2 0, drop, yield")
		if part < 32 {
			tells(t, in, part, c, api.Summary{Height: 1, Fuel: 3, Ins: 4})
			tells(t, read, part, c, api.Summary{Height: 1, Fuel: 3, Reads: 4})
		} else {
			errs(t, in, part, c, 0, api.ErrField)
			errs(t, read, part, c, 0, api.ErrPort)
		}
		c.Field.Writer = part
		tells(t, sample.Code("age 3, put 1 0, send 5, read 3 0, out 1, yield"), part, c, api.Summary{Height: 1, Fuel: 6, Reads: 8, Writes: 34, Outs: 2})
		errs(t, sample.Code("yield"), 70, c, 0, api.ErrArg)
	}
}

// R3: what is handed in stays as it is; what becomes of it, and of an answer, later makes no difference to other answers.
func TestApart(t *testing.T) {
	row := sample.From(4)
	for range 2000 {
		c, part := configOf(row)
		l := programOf(row, part, c, 1)
		lWas, cWas := slices.Clone(l), c
		cWas.Parts, cWas.Ports, cWas.Field.Safe = slices.Clone(c.Parts), slices.Clone(c.Ports), slices.Clone(c.Field.Safe)
		s, n, err := verify.Check(l, part, c)
		own := verify.Own(l[0], part, c)
		if !slices.Equal(l, lWas) || !reflect.DeepEqual(c, cWas) {
			t.Fatalf("%s, %+v have become %s, %+v", sample.Short(lWas), cWas, sample.Short(l), c)
		}
		clear(l)
		clear(c.Parts)
		clear(c.Ports)
		if got, gotN, gotErr := verify.Check(lWas, part, cWas); got != s || gotN != n || gotErr != err {
			t.Fatalf("Check(%s, %d, %+v) tells %+v, %d, %d, and then %+v, %d, %d", sample.Short(lWas), part, cWas, s, n, err, got, gotN, gotErr)
		}
		if got := verify.Own(lWas[0], part, cWas); got != own {
			t.Fatalf("Own(%v, %d, %+v) tells %d, and then %d", lWas[0], part, cWas, own, got)
		}
	}
}

// R3: what stands behind a list in memory is none of it.
func TestBehindTheList(t *testing.T) {
	l, c := sample.Code("in 0, out 0, yield, in 1, drop, yield"), open()
	tells(t, l[:3], 0, c, api.Summary{Height: 1, Fuel: 3, Ins: 1, Outs: 1})
	errs(t, l[:2], 0, c, 1, api.ErrEnd)
	errs(t, l[:0], 0, c, 0, api.ErrEnd)
	c.Ports, c.Field.Safe, c.Field.Ins = c.Ports[:3], c.Field.Safe[:2], 1
	errs(t, sample.Code("push 1, out 2, yield"), 0, c, 1, api.ErrField)
	errs(t, sample.Code("send 2, send 3, yield"), 0, c, 1, api.ErrPort)
	c.Parts = c.Parts[:1]
	errs(t, sample.Code("yield"), 1, c, 0, api.ErrArg)
}

// R5: partitions and programs that are asked by turns are told as each alone.
func TestByTurns(t *testing.T) {
	for range 3 {
		tells(t, sample.Code("read 0 1, drop, yield"), 0, example(), api.Summary{Height: 1, Fuel: 3, Reads: 1})
		errs(t, sample.Code("in 0, drop, yield"), 1, example(), 0, api.ErrField)
		tells(t, sample.Code("send 0, yield"), 1, example(), api.Summary{Fuel: 2, Writes: 1})
		errs(t, sample.Code("send 0, yield"), 0, example(), 0, api.ErrPort)
		owns(t, api.Instr{Op: api.OpSend}, 1, example(), true)
		owns(t, api.Instr{Op: api.OpSend}, 0, example(), false)
		tells(t, sample.Code("yield"), 0, example(), api.Summary{Fuel: 1})
	}
}

// What the tests draw at random is what they say: programs of pieces are well, but for what their partition may not do.
func TestProgramOf(t *testing.T) {
	row := sample.From(5)
	for range 2000 {
		c, part := configOf(row)
		l := programOf(row, part, c, row.Below(9))
		if _, n, err := height.Heights(l, 64); err != api.OK {
			t.Fatalf("%s has error %d at %d", sample.Short(l), err, n)
		}
		ahead := programOf(row, part, c, 0)
		if _, n, err := cost.From(ahead); err != api.OK {
			t.Fatalf("%s, that goes ahead alone, has error %d at %d", sample.Short(ahead), err, n)
		}
	}
}
