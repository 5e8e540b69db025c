package isa_test

import (
	"bytes"
	"math"
	"slices"
	"strconv"
	"strings"
	"testing"

	"tappet/api"
	"tappet/isa"
	"tappet/sample"
)

const (
	mostA = math.MaxUint8
	mostB = math.MaxUint16
	mostC = math.MaxUint32
)

// kindOf answers the kind of an Op, and whether there is one.
func kindOf(l []sample.Kind, op uint8) (sample.Kind, bool) {
	n := slices.IndexFunc(l, func(k sample.Kind) bool { return k.Op == op })
	if n < 0 {
		return sample.Kind{}, false
	}
	return l[n], true
}

// among tells whether x is one of the list, or 0, where nothing is listed.
func among[T uint8 | uint16](l []T, x T) bool { return slices.Contains(l, x) || l == nil && x == 0 }

// may is May by the words.
func may(l []sample.Kind, i api.Instr) bool {
	k, is := kindOf(l, i.Op)
	return is && among(append(slices.Clone(k.Digit), k.As...), i.A) && among(k.Bs, i.B) && (k.C || i.C == 0)
}

// text is Text by the words.
func text(l []sample.Kind, i api.Instr) string {
	if !may(l, i) {
		return ""
	}
	k, _ := kindOf(l, i.Op)
	words := []string{k.Name}
	if k.Digit != nil {
		words[0] += strconv.Itoa(int(i.A))
	}
	if k.As != nil {
		words = append(words, strconv.Itoa(int(i.A)))
	}
	if k.Bs != nil {
		words = append(words, strconv.Itoa(int(i.B)))
	}
	if k.C {
		words = append(words, strconv.Itoa(int(i.C)))
	}
	return strings.Join(words, " ")
}

// bytesOf is Bytes by the words: each number is divided by 256, over and over.
func bytesOf(i api.Instr) []byte {
	b := []byte{i.Op, i.A}
	for _, number := range []struct{ bytes, x uint32 }{{2, uint32(i.B)}, {4, i.C}} {
		for range number.bytes {
			b = append(b, byte(number.x%256))
			number.x /= 256
		}
	}
	return b
}

// edgesB and edgesC are numbers about those where a bound is passed, or a byte is full.
func edgesB() []uint16 { return []uint16{0, 1, 9, 10, 14, 15, 16, 17, 255, 256, 257, 1 << 15, mostB} }

func edgesC() []uint32 {
	return []uint32{0, 1, 9, 10, 15, 16, 99, 100, 255, 256, 65535, 65536, 1<<24 - 1, 1 << 24, 1 << 31, mostC - 1, mostC}
}

// edges goes over whatever Op and A, with B and C at the edges, instructions or not.
func edges(yield func(api.Instr) bool) {
	for op := range 256 {
		for a := range 256 {
			for _, b := range edgesB() {
				for _, c := range edgesC() {
					if !yield(api.Instr{Op: uint8(op), A: uint8(a), B: b, C: c}) {
						return
					}
				}
			}
		}
	}
}

// all answers the instructions among edges, as the words say it.
func all() []api.Instr {
	var l []api.Instr
	for _, k := range sample.Kinds() {
		for a := range 256 {
			for b := range 20 {
				for _, c := range edgesC() {
					if i := (api.Instr{Op: k.Op, A: uint8(a), B: uint16(b), C: c}); may([]sample.Kind{k}, i) {
						l = append(l, i)
					}
				}
			}
		}
	}
	return l
}

// reads fails the test unless Read of the bytes tells that.
func reads(t *testing.T, b []byte, want api.Instr, wantErr api.Errno) {
	t.Helper()
	if got, err := isa.Read(b); got != want || err != wantErr {
		t.Fatalf("Read(%v) tells %v, %d; want %v, %d", b, got, err, want, wantErr)
	}
}

// is fails the test unless all that is asked of i is as it must be of an instruction, or of what is none, as may says.
func is(t *testing.T, i api.Instr, may bool) {
	t.Helper()
	if isa.May(i) != may {
		t.Errorf("May(%v) tells %v", i, !may)
	}
	if may != (isa.Text(i) != "") {
		t.Errorf("Text(%v) is %q", i, isa.Text(i))
	}
	if may {
		reads(t, bytesOf(i), i, api.OK)
	} else {
		reads(t, bytesOf(i), api.Instr{}, api.ErrOp)
	}
}

// P9.2, P9.3: the chapter's table.
func TestExamples(t *testing.T) {
	if got := isa.Bytes(api.Instr{Op: api.OpPush, C: 258}); got != [8]byte{1, 0, 0, 0, 2, 1, 0, 0} {
		t.Errorf("the bytes of push 258 are %v", got)
	}
	read := api.Instr{Op: api.OpRead, A: 1, B: 2}
	reads(t, []byte{23, 1, 2, 0, 0, 0, 0, 0}, read, api.OK)
	if got := isa.Text(read); got != "read 1 2" {
		t.Errorf("the text of read of port 1, word 2 is %q", got)
	}
	reads(t, []byte{17, 3, 0, 0, 0, 0, 0, 0}, api.Instr{}, api.ErrOp)
	reads(t, []byte{0, 0, 0, 0, 0, 0, 0, 0}, api.Instr{}, api.ErrOp)
	reads(t, []byte{2, 0, 0, 0, 1, 0, 0, 0}, api.Instr{}, api.ErrOp)
	reads(t, []byte{2, 0, 0, 0, 0, 0, 0}, api.Instr{}, api.ErrShort)
	if got := isa.Text(api.Instr{Op: api.OpLoad, A: 2, C: 16}); got != "load2 16" {
		t.Errorf("the text of a load of two bytes at 16 is %q", got)
	}
}

// P9.1: the numbers of the Ops are those of the chapter's table.
func TestOps(t *testing.T) {
	ops := []uint8{
		api.OpPush, api.OpDup, api.OpDrop, api.OpSwap, api.OpAdd, api.OpSub, api.OpMul, api.OpDiv, api.OpMod, api.OpAnd, api.OpOr, api.OpXor, api.OpShl, api.OpShr, api.OpEq, api.OpLess,
		api.OpLoad, api.OpStore, api.OpJump, api.OpZero, api.OpIn, api.OpOut, api.OpRead, api.OpAge, api.OpPut, api.OpSend, api.OpYield,
	}
	for n, k := range sample.Kinds() {
		if k.Op != ops[n] || int(k.Op) != n+1 {
			t.Errorf("%s is %d, want %d", k.Name, ops[n], k.Op)
		}
	}
}

// P9.1: each Op: what it takes and gives, whether it jumps, and whether it is an instruction with the least that it may name.
func TestEachOp(t *testing.T) {
	l := sample.Kinds()
	for n := range 256 {
		op := uint8(n)
		k, there := kindOf(l, op)
		if isa.Takes(op) != k.Takes || isa.Gives(op) != k.Gives {
			t.Errorf("Op %d takes %d, gives %d; want %d, %d", op, isa.Takes(op), isa.Gives(op), k.Takes, k.Gives)
		}
		if isa.Jumps(op) != (op == 19 || op == 20) {
			t.Errorf("Jumps(%d) tells %v", op, isa.Jumps(op))
		}
		is(t, api.Instr{Op: op}, there && op != 17 && op != 18)
		is(t, api.Instr{Op: op, A: 1}, there && (k.Digit != nil || k.As != nil))
	}
}

// P9.1: what an instruction does not name is zero: one thing at a time.
func TestWhatIsNotNamed(t *testing.T) {
	for _, k := range sample.Kinds() {
		i := api.Instr{Op: k.Op}
		if k.Digit != nil {
			i.A = k.Digit[0]
		}
		is(t, i, true)
		for _, x := range []uint32{1, 2, 255, 256, 65535, 65536, mostC} {
			a, b, c := i, i, i
			a.A, b.B, c.C = uint8(x), uint16(x), x
			if k.Digit == nil && k.As == nil && a.A != 0 {
				is(t, a, false)
			}
			if k.Bs == nil && b.B != 0 {
				is(t, b, false)
			}
			is(t, c, k.C)
		}
	}
}

// P9.1: what load and store name as A.
func TestSizes(t *testing.T) {
	for _, op := range []uint8{api.OpLoad, api.OpStore} {
		for a := range 256 {
			for _, c := range edgesC() {
				is(t, api.Instr{Op: op, A: uint8(a), C: c}, a == 1 || a == 2 || a == 4)
			}
		}
		for _, size := range []uint8{1, 2, 4} {
			is(t, api.Instr{Op: op, A: size, B: 1}, false)
			is(t, api.Instr{Op: op, A: size, B: mostB, C: 9}, false)
		}
	}
}

// P9.1: what is named of the field, and of ports: each A, and each B.
func TestFieldAndPorts(t *testing.T) {
	for _, op := range []uint8{api.OpIn, api.OpOut, api.OpAge, api.OpSend} {
		for a := range 256 {
			is(t, api.Instr{Op: op, A: uint8(a)}, a < 16)
			is(t, api.Instr{Op: op, A: uint8(a), B: 1}, false)
			is(t, api.Instr{Op: op, A: uint8(a), C: 1}, false)
		}
	}
	for _, op := range []uint8{api.OpRead, api.OpPut} {
		for _, a := range []int{0, 1, 14, 15, 16, 17, 31, 32, 128, mostA} {
			for b := range mostB + 1 {
				if i := (api.Instr{Op: op, A: uint8(a), B: uint16(b)}); isa.May(i) != (a < 16 && b < 16) {
					t.Fatalf("May(%v) tells %v", i, isa.May(i))
				}
			}
			is(t, api.Instr{Op: op, A: uint8(a), C: 1}, false)
			is(t, api.Instr{Op: op, A: uint8(a), B: 15}, a < 16)
			is(t, api.Instr{Op: op, A: uint8(a), B: 16}, false)
		}
	}
}

// P9.1: whatever is named as C is an instruction's.
func TestNumbers(t *testing.T) {
	for _, c := range edgesC() {
		for _, i := range []api.Instr{
			{Op: api.OpPush, C: c}, {Op: api.OpJump, C: c}, {Op: api.OpZero, C: c},
			{Op: api.OpLoad, A: 1, C: c}, {Op: api.OpLoad, A: 2, C: c}, {Op: api.OpLoad, A: 4, C: c},
			{Op: api.OpStore, A: 1, C: c}, {Op: api.OpStore, A: 2, C: c}, {Op: api.OpStore, A: 4, C: c},
		} {
			is(t, i, true)
		}
	}
}

// P9.1, P9.2, P9.3: whatever Op and A, with B and C at the edges: as the words say it.
func TestByTheWords(t *testing.T) {
	l := sample.Kinds()
	are := 0
	for i := range edges {
		b := isa.Bytes(i)
		if !bytes.Equal(b[:], bytesOf(i)) {
			t.Fatalf("the bytes of %v are %v, want %v", i, b, bytesOf(i))
		}
		if got, want := isa.May(i), may(l, i); got != want {
			t.Fatalf("May(%v) tells %v", i, got)
		}
		if !isa.May(i) {
			if got, err := isa.Read(b[:]); got != (api.Instr{}) || err != api.ErrOp || isa.Text(i) != "" {
				t.Fatalf("of %v, that is none, Read tells %v, %d, and Text %q", i, got, err, isa.Text(i))
			}
			continue
		}
		are++
		reads(t, b[:], i, api.OK)
		if got, want := isa.Text(i), text(l, i); got != want {
			t.Fatalf("the text of %v is %q, want %q", i, got, want)
		}
	}
	// Push, jump and zero, load and store of three sizes; in, out, age and send; read and put, with the edges below 16; the 16 that name nothing.
	if want := (3+6)*len(edgesC()) + 4*16 + 2*16*6 + 16; are != want {
		t.Errorf("%d are instructions, want %d", are, want)
	}
}

// P9.2: each byte of what Bytes answers is that of one place alone, of whatever instruction.
func TestEachByte(t *testing.T) {
	for n, i := range []api.Instr{
		{Op: 1}, {A: 1}, {B: 1}, {B: 1 << 8}, {C: 1}, {C: 1 << 8}, {C: 1 << 16}, {C: 1 << 24},
	} {
		for x := range 256 {
			var want [8]byte
			want[n] = byte(x)
			if got := isa.Bytes(api.Instr{Op: i.Op * uint8(x), A: i.A * uint8(x), B: i.B * uint16(x), C: i.C * uint32(x)}); got != want {
				t.Errorf("byte %d of %d: Bytes tells %v", n, x, got)
			}
		}
	}
}

// P9.2: the bytes of whatever Op, A, B and C, most of them of no instruction.
func TestBytesOfAny(t *testing.T) {
	feed := sample.From(15)
	for range 100_000 {
		i := api.Instr{Op: uint8(feed.Next()), A: uint8(feed.Next()), B: uint16(feed.Next()), C: uint32(feed.Next())}
		if got := isa.Bytes(i); !bytes.Equal(got[:], bytesOf(i)) {
			t.Fatalf("the bytes of %v are %v, want %v", i, got, bytesOf(i))
		}
	}
}

// P9.2: fewer than 8 bytes are too few, whatever they are, and whatever stands behind them in memory.
func TestReadShort(t *testing.T) {
	reads(t, nil, api.Instr{}, api.ErrShort)
	reads(t, []byte{}, api.Instr{}, api.ErrShort)
	feed := sample.From(9)
	for _, i := range all() {
		b := bytesOf(i)
		for size := range 8 {
			reads(t, b[:size], api.Instr{}, api.ErrShort)
			reads(t, slices.Clone(b[:size]), api.Instr{}, api.ErrShort)
		}
	}
	for range 1000 {
		reads(t, feed.Bytes(feed.Below(8)), api.Instr{}, api.ErrShort)
	}
	for op := range 256 {
		reads(t, []byte{byte(op)}, api.Instr{}, api.ErrShort)
		reads(t, []byte{byte(op), 0, 0, 0, 0, 0, 0}, api.Instr{}, api.ErrShort)
		reads(t, []byte{byte(op), mostA, 0, 0, 0, 0, mostA}, api.Instr{}, api.ErrShort)
	}
}

// P9.2: what stands behind the first 8 bytes makes no difference, of an instruction and of none.
func TestReadOfMany(t *testing.T) {
	feed, l := sample.From(10), sample.Kinds()
	for _, size := range []int{8, 9, 10, 15, 16, 17, 24, 255, 256, 4096} {
		for range 200 {
			i := feed.NearInstr(l)
			want, wantErr := i, api.OK
			if !may(l, i) {
				want, wantErr = api.Instr{}, api.ErrOp
			}
			for _, rest := range [][]byte{make([]byte, size-8), bytes.Repeat([]byte{mostA}, size-8), feed.Bytes(size - 8)} {
				reads(t, append(bytesOf(i), rest...), want, wantErr)
			}
		}
	}
	// An instruction behind 8 bytes that are of none is not looked for.
	reads(t, append(make([]byte, 8), bytesOf(api.Instr{Op: api.OpYield})...), api.Instr{}, api.ErrOp)
}

// P9.3: the text of each instruction, written out.
func TestText(t *testing.T) {
	var want []string
	var got []string
	put := func(i api.Instr, text string) {
		got, want = append(got, isa.Text(i)), append(want, text)
	}
	put(api.Instr{Op: api.OpPush}, "push 0")
	put(api.Instr{Op: api.OpPush, C: 7}, "push 7")
	put(api.Instr{Op: api.OpPush, C: 10}, "push 10")
	put(api.Instr{Op: api.OpPush, C: mostC}, "push 4294967295")
	for n, name := range strings.Fields("dup drop swap add sub mul div mod and or xor shl shr eq less") {
		put(api.Instr{Op: api.OpDup + uint8(n)}, name)
	}
	put(api.Instr{Op: api.OpLoad, A: 1}, "load1 0")
	put(api.Instr{Op: api.OpLoad, A: 2, C: 9}, "load2 9")
	put(api.Instr{Op: api.OpLoad, A: 4, C: 1 << 24}, "load4 16777216")
	put(api.Instr{Op: api.OpStore, A: 1, C: 65535}, "store1 65535")
	put(api.Instr{Op: api.OpStore, A: 2}, "store2 0")
	put(api.Instr{Op: api.OpStore, A: 4, C: mostC}, "store4 4294967295")
	put(api.Instr{Op: api.OpJump, C: 1 << 31}, "jump 2147483648")
	put(api.Instr{Op: api.OpJump}, "jump 0")
	put(api.Instr{Op: api.OpZero, C: 12345}, "zero 12345")
	put(api.Instr{Op: api.OpIn, A: 0}, "in 0")
	put(api.Instr{Op: api.OpIn, A: 15}, "in 15")
	put(api.Instr{Op: api.OpOut, A: 9}, "out 9")
	put(api.Instr{Op: api.OpOut, A: 10}, "out 10")
	put(api.Instr{Op: api.OpRead}, "read 0 0")
	put(api.Instr{Op: api.OpRead, A: 1, B: 11}, "read 1 11")
	put(api.Instr{Op: api.OpRead, A: 11, B: 1}, "read 11 1")
	put(api.Instr{Op: api.OpAge, A: 3}, "age 3")
	put(api.Instr{Op: api.OpPut, A: 15, B: 15}, "put 15 15")
	put(api.Instr{Op: api.OpPut, A: 0, B: 4}, "put 0 4")
	put(api.Instr{Op: api.OpSend, A: 12}, "send 12")
	put(api.Instr{Op: api.OpYield}, "yield")
	for n := range want {
		if got[n] != want[n] {
			t.Errorf("a text is %q, want %q", got[n], want[n])
		}
	}
}

// P9.3: what is no instruction has no text, though it differs in one thing alone.
func TestNoText(t *testing.T) {
	for _, i := range []api.Instr{
		{}, {Op: 28}, {Op: 29, C: 1}, {Op: mostA}, {Op: mostA, A: mostA, B: mostB, C: mostC},
		{Op: api.OpPush, A: 1, C: 5}, {Op: api.OpPush, B: 1, C: 5}, {Op: api.OpAdd, C: 1}, {Op: api.OpYield, A: 1},
		{Op: api.OpLoad, C: 16}, {Op: api.OpLoad, A: 3, C: 16}, {Op: api.OpStore, A: 8}, {Op: api.OpStore, A: 1, B: 1},
		{Op: api.OpIn, A: 16}, {Op: api.OpOut, A: 16}, {Op: api.OpRead, A: 16}, {Op: api.OpRead, B: 16}, {Op: api.OpPut, A: 1, B: 256}, {Op: api.OpSend, A: 16}, {Op: api.OpAge, A: 0, B: 1},
	} {
		if got := isa.Text(i); got != "" {
			t.Errorf("the text of %v, that is none, is %q", i, got)
		}
	}
}

// P9.3: the Op of each name.
func TestOpOfNames(t *testing.T) {
	for _, k := range sample.Kinds() {
		if got := isa.Op(k.Name); got != k.Op {
			t.Errorf("Op(%q) tells %d, want %d", k.Name, got, k.Op)
		}
	}
}

// P9.3: what is near to a name is none, and so is a text with what it names.
func TestOpOfNoNames(t *testing.T) {
	l := sample.Kinds()
	names := map[string]bool{}
	for _, k := range l {
		names[k.Name] = true
	}
	wrong := []string{
		"", " ", "\n", "\x00", "0", "1", "27", "op", "push 1", "jump 0", "in 0", "read 1 2", "load2 16", "store4 0",
		"load0", "load1", "load2", "load3", "load4", "store1", "store2", "store4", "halt", "nop", "push:", "add sub", "é", "\xff", strings.Repeat("push", 1000),
	}
	for _, k := range l {
		wrong = append(wrong,
			k.Name+"s", k.Name+"0", k.Name+"\x00", "a"+k.Name, k.Name+k.Name, k.Name[1:], k.Name[:len(k.Name)-1],
			" "+k.Name, k.Name+" ", "\t"+k.Name, k.Name+"\n", strings.ToUpper(k.Name), strings.ToUpper(k.Name[:1])+k.Name[1:], k.Name+" 0", k.Name+" 1 2")
	}
	for _, name := range wrong {
		if got := isa.Op(name); got != 0 && !names[name] {
			t.Errorf("Op(%q) tells %d", name, got)
		}
	}
	for _, i := range all() {
		if got := isa.Op(isa.Text(i)); strings.ContainsAny(isa.Text(i), " 0123456789") && got != 0 {
			t.Fatalf("Op(%q) tells %d", isa.Text(i), got)
		}
	}
}

// P9.4: what Bytes answers is read as it was, whatever stands behind.
func TestReadAsItWas(t *testing.T) {
	feed := sample.From(11)
	for _, i := range all() {
		b := isa.Bytes(i)
		reads(t, b[:], i, api.OK)
		reads(t, append(b[:], feed.Bytes(feed.Below(20))...), i, api.OK)
	}
}

// P9.4: the bytes of what was read are just those that it was read from: of any bytes, and of an instruction's with one bit turned, or one byte another one.
func TestJustTheseBytes(t *testing.T) {
	feed, l := sample.From(12), sample.Kinds()
	told := map[api.Errno]int{}
	back := func(b []byte) {
		i, err := isa.Read(b)
		told[err]++
		if again := isa.Bytes(i); err == api.OK && !bytes.Equal(again[:], b) {
			t.Fatalf("%v is read as %v, that has the bytes %v", b, i, again)
		}
	}
	for range 200_000 {
		b := feed.Bytes(8)
		if feed.Below(2) == 0 {
			b = bytesOf(feed.NearInstr(l))
		}
		back(b)
	}
	for _, i := range all() {
		b := bytesOf(i)
		for bit := range 64 {
			b[bit/8] ^= 1 << (bit % 8)
			back(b)
			if other, err := isa.Read(b); err == api.OK && other == i {
				t.Fatalf("%v is read as %v too", b, i)
			}
			b[bit/8] ^= 1 << (bit % 8)
		}
		b[feed.Below(8)] = byte(feed.Next())
		back(b)
	}
	if told[api.OK] < 20_000 || told[api.ErrOp] < 20_000 {
		t.Errorf("%d were instructions, %d not", told[api.OK], told[api.ErrOp])
	}
}

// P9.4: unlike instructions have unlike texts, and unlike bytes; the same have the same.
func TestUnlike(t *testing.T) {
	feed, l := sample.From(13), sample.Kinds()
	byText := map[string]api.Instr{}
	byBytes := map[[8]byte]api.Instr{}
	put := func(i api.Instr) {
		text, b := isa.Text(i), isa.Bytes(i)
		if other, there := byText[text]; there && other != i && text != "" {
			t.Fatalf("%v and %v have the text %q", other, i, text)
		}
		if other, there := byBytes[b]; there && other != i {
			t.Fatalf("%v and %v have the bytes %v", other, i, b)
		}
		byText[text], byBytes[b] = i, i
		if isa.Text(i) != text || isa.Bytes(i) != b {
			t.Fatalf("%v has another text, or other bytes, each time", i)
		}
	}
	for _, i := range all() {
		put(i)
	}
	// Push, jump and zero, load and store of three sizes; of the others each one that there is.
	if want := (3+6)*len(edgesC()) + 4*16 + 2*16*16 + 16; len(byText) != want {
		t.Errorf("there are %d texts, want %d", len(byText), want)
	}
	for range 200_000 {
		put(feed.NearInstr(l))
	}
	for i := range edges {
		if i.A < 20 || i.A == mostA {
			put(i)
		}
	}
}

// R3, R5: the bytes that Read was given are not changed, nor those behind them; the same bytes are read as the same again, and what Bytes answered may be changed.
func TestBytesGoByThemselves(t *testing.T) {
	feed, l := sample.From(14), sample.Kinds()
	for range 20_000 {
		b := append(bytesOf(feed.NearInstr(l)), feed.Bytes(feed.Below(12))...)
		before := slices.Clone(b)
		b = b[:feed.Below(len(b)+1)]
		got, err := isa.Read(b)
		if !bytes.Equal(b[:len(before)], before) {
			t.Fatalf("Read changes %v to %v", before, b[:len(before)])
		}
		reads(t, b, got, err)
	}
	b := isa.Bytes(api.Instr{Op: api.OpYield})
	b[0] = 1
	if got := isa.Bytes(api.Instr{Op: api.OpYield}); got[0] != 27 {
		t.Errorf("what Bytes answered is not its own: %v", got)
	}
}
