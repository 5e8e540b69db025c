package asm_test

import (
	"bytes"
	"fmt"
	"math"
	"slices"
	"strings"
	"testing"

	"tappet/api"
	"tappet/asm"
	"tappet/isa"
	"tappet/sample"
)

const maxCode = 16384

// short answers a list as text, or its beginning.
func short[T any](l []T) string { return fmt.Sprint(len(l), l[:min(len(l), 20)]) }

// assembles fails the test unless Assemble of these lines tells that.
func assembles(t *testing.T, l []api.Asm, want []api.Instr, wantN int, wantErr api.Errno) {
	t.Helper()
	got, n, err := asm.Assemble(l)
	if !slices.Equal(got, want) || n != wantN || err != wantErr {
		t.Fatalf("Assemble(%s) tells %s, %d, %d; want %s, %d, %d", short(l), short(got), n, err, short(want), wantN, wantErr)
	}
}

// reads fails the test unless Read of these bytes tells that.
func reads(t *testing.T, b []byte, want []api.Instr, wantN int, wantErr api.Errno) {
	t.Helper()
	got, n, err := asm.Read(b)
	if !slices.Equal(got, want) || n != wantN || err != wantErr {
		t.Fatalf("Read(%s) tells %s, %d, %d; want %s, %d, %d", short(b), short(got), n, err, short(want), wantN, wantErr)
	}
}

// may fails the test unless May, and all that hang on it, tell whether this may be a line.
func may(t *testing.T, x api.Asm, want bool) {
	t.Helper()
	if got := asm.May(x); got != want {
		t.Errorf("May(%+v) tells %v", x, got)
	}
	if got := asm.Text([]api.Asm{x}); (got != "") != want {
		t.Errorf("Text(%+v) is %q", x, got)
	}
	if _, n, err := asm.Assemble([]api.Asm{x}); (err == api.ErrArg) == want || n != 0 {
		t.Errorf("Assemble(%+v) tells error %d at %d", x, err, n)
	}
}

// line answers a line with these labels.
func line(label string, i api.Instr, to string) api.Asm { return api.Asm{Label: label, I: i, To: to} }

// The instructions that stand in many tests.
var (
	dup   = api.Instr{Op: api.OpDup}
	jump  = api.Instr{Op: api.OpJump}
	zero  = api.Instr{Op: api.OpZero}
	yield = api.Instr{Op: api.OpYield}
	push1 = api.Instr{Op: api.OpPush, C: 1}
	none  = api.Instr{Op: 28}
)

// P10.1, P10.3, P10.4: the chapter's table.
func TestExamples(t *testing.T) {
	two := []api.Asm{line("a", push1, ""), line("", jump, "a")}
	assembles(t, two, []api.Instr{push1, jump}, 0, api.OK)
	parses(t, " a: push 1 ; one\njump a", two, 0, api.OK)
	if got := asm.Text(two); got != "a: push 1\njump a\n" {
		t.Errorf("the text is %q", got)
	}
	parses(t, "push", nil, 1, api.ErrWord)
	parses(t, "hop 1", nil, 1, api.ErrWord)
	parses(t, "push 01", nil, 1, api.ErrValue)
	parses(t, "in 16", nil, 1, api.ErrValue)
	parses(t, "A: dup", nil, 1, api.ErrLabel)
	assembles(t, []api.Asm{line("", jump, "b")}, nil, 0, api.ErrLabel)
	assembles(t, []api.Asm{line("a", dup, ""), line("a", dup, "")}, nil, 1, api.ErrLabel)
}

// P10.1: which texts are labels: of a line, and of what it goes to.
func TestMayLabels(t *testing.T) {
	label := func(s string, want bool) {
		t.Helper()
		may(t, line(s, dup, ""), want)
		may(t, line("", jump, s), want)
		may(t, line("", zero, s), want)
		may(t, line(s, jump, s), want)
		may(t, line(s, jump, "a"), want)
		may(t, line("a", jump, s), want)
		may(t, line(s, dup, "a"), false)
		may(t, line(s, none, ""), false)
	}
	may(t, line("", dup, ""), true)
	for _, s := range []string{"a", "z", "m", "ab", "a1", "a_", "a__", "a9z", "push", "load1", "jump", "abcdefghijklmno", "abcdefghijklmnop", "a123456789012345", "a_______________", "zzzzzzzzzzzzzzzz"} {
		label(s, true)
	}
	for _, s := range []string{
		"abcdefghijklmnopq", "a1234567890123456", strings.Repeat("a", 17), strings.Repeat("a", 32), strings.Repeat("a", 272), strings.Repeat("a", 100_000),
		"0", "1", "9", "1a", "0a", "_", "_a", "__", "A", "Z", "Aa", "aA", "aZ", "abC", " ", " a", "a ", "a b", ":", ":a", "a:", "a:b",
		";", "a;", "a\n", "\na", "\n", "a\t", "a\r", "a\x00", "\x00", "a-b", "a.b", "-", "+", "a+", "é", "aé", "a\xff", "\xff", "a\u0430", "\u0430", "١", "a١",
	} {
		label(s, false)
	}
	for c := range 256 {
		small := c >= 'a' && c <= 'z'
		more := small || c >= '0' && c <= '9' || c == '_'
		b := string([]byte{byte(c)})
		label(b, small)
		label("a"+b, more)
		label("a"+b+"a", more)
		label("abcdefghijklmno"+b, more)
		label("abcdefghijklmnop"+b, false)
		label(b+"bcdefghijklmnop", small)
	}
}

// P10.1: what is no instruction may not be a line's, with and without labels.
func TestMayInstr(t *testing.T) {
	for _, i := range []api.Instr{
		{}, none, {Op: 255}, {Op: api.OpPush, A: 1}, {Op: api.OpLoad}, {Op: api.OpStore, A: 3}, {Op: api.OpIn, A: 16}, {Op: api.OpDup, C: 1},
		{Op: api.OpJump, A: 1}, {Op: api.OpZero, B: 1}, {Op: api.OpRead, B: 16}, {Op: api.OpYield, C: 1},
	} {
		may(t, line("", i, ""), false)
		may(t, line("a", i, ""), false)
		may(t, line("", i, "a"), false)
		may(t, line("a", i, "a"), false)
	}
	f := from(1)
	for range 20_000 {
		i := f.NearInstr(f.kinds)
		may(t, line("", i, ""), isa.May(i))
		may(t, line("a", i, ""), isa.May(i))
		may(t, line("A", i, ""), false)
	}
}

// P10.1: only jump and zero may have a To, and only with C 0; without one C may be whatever there is.
func TestMayTo(t *testing.T) {
	f := from(2)
	for _, k := range f.kinds {
		jumps := k.Op == 19 || k.Op == 20
		for range 200 {
			i := f.Instr([]sample.Kind{k})
			may(t, line("", i, ""), true)
			may(t, line("", i, "a"), jumps && i.C == 0)
			may(t, line("a", i, "a"), jumps && i.C == 0)
			i.C = 0
			may(t, line("", i, "a"), jumps)
			may(t, line("b", i, "a"), jumps)
		}
	}
	for _, op := range []uint8{api.OpJump, api.OpZero} {
		for _, c := range []uint32{0, 1, 2, 255, 256, 65536, maxCode - 1, maxCode, 1 << 31, math.MaxUint32} {
			i := api.Instr{Op: op, C: c}
			may(t, line("", i, ""), true)
			may(t, line("a", i, ""), true)
			may(t, line("", i, "a"), c == 0)
			may(t, line("a", i, "a"), c == 0)
			may(t, line("", i, "A"), false)
		}
	}
}

// P10.1: whatever lines, by the words.
func TestMayByTheWords(t *testing.T) {
	f := from(3)
	are := 0
	for range 20_000 {
		may(t, f.line(), true)
		x := f.nearLine()
		may(t, x, mayBe(x))
		if asm.May(x) {
			are++
		}
	}
	if are < 1000 || are > 19_000 {
		t.Errorf("%d of 20000 may be", are)
	}
}

// P10.1: no line, one, the most, and one more, that is told ahead of all else.
func TestAssembleMany(t *testing.T) {
	assembles(t, nil, nil, 0, api.OK)
	assembles(t, []api.Asm{}, nil, 0, api.OK)
	assembles(t, []api.Asm{line("", yield, "")}, []api.Instr{yield}, 0, api.OK)
	for _, count := range []int{2, 255, 256, 257, maxCode - 1, maxCode} {
		l := make([]api.Asm, count)
		want := make([]api.Instr, count)
		for n := range l {
			i := api.Instr{Op: api.OpPush, C: uint32(n)}
			l[n], want[n] = line("", i, ""), i
		}
		assembles(t, l, want, 0, api.OK)
		l[0], want[0] = line("", zero, "end"), api.Instr{Op: api.OpZero, C: uint32(count - 1)}
		l[count-1], want[count-1] = line("end", dup, ""), dup
		assembles(t, l, want, 0, api.OK)
		l[count-1] = line("", none, "")
		assembles(t, l, nil, count-1, api.ErrArg)
		l[count-1] = line("", jump, "none")
		l[0] = line("", dup, "")
		assembles(t, l, nil, count-1, api.ErrLabel)
	}
	for _, count := range []int{maxCode + 1, maxCode + 2, 2 * maxCode, 1 << 20} {
		l := make([]api.Asm, count)
		assembles(t, l, nil, 0, api.ErrLong)
		for n := range l {
			l[n] = line("", dup, "")
		}
		assembles(t, l, nil, 0, api.ErrLong)
		l[1] = line("A", dup, "")
		assembles(t, l, nil, 0, api.ErrLong)
		l[1] = line("", jump, "b")
		assembles(t, l, nil, 0, api.ErrLong)
		l[1], l[2] = line("a", dup, ""), line("a", dup, "")
		assembles(t, l, nil, 0, api.ErrLong)
	}
}

// P10.1: what may not be is told ahead of labels that are amiss, wherever both stand; of several the first.
func TestAssembleArgFirst(t *testing.T) {
	amiss := [][]api.Asm{
		{line("a", dup, ""), line("a", dup, "")},
		{line("", jump, "b"), line("", dup, "")},
		{line("c", zero, "b"), line("c", dup, "")},
	}
	wrong := []api.Asm{line("A", dup, ""), line("", none, ""), line("", dup, "a"), line("", api.Instr{Op: api.OpJump, C: 1}, "a"), line("", jump, "1")}
	for _, x := range wrong {
		for _, pair := range amiss {
			for at := range 3 {
				l := slices.Insert(slices.Clone(pair), at, x)
				assembles(t, l, nil, at, api.ErrArg)
				assembles(t, append(l, x, line("", none, "")), nil, at, api.ErrArg)
				assembles(t, append(l, pair...), nil, at, api.ErrArg)
			}
		}
	}
	l := from(4).wellLabelled(300)
	for at := range l {
		broken := slices.Clone(l)
		broken[at].I.Op = 0
		assembles(t, broken, nil, at, api.ErrArg)
		broken[(at+299)/2].I.Op = 28
		assembles(t, broken, nil, min(at, (at+299)/2), api.ErrArg)
	}
}

// P10.1: labels that are there twice, or not at all: of several the first, and in one line both at once.
func TestAssembleLabels(t *testing.T) {
	a, b := line("a", dup, ""), line("b", dup, "")
	toA, toB, toC := line("", jump, "a"), line("", zero, "b"), line("", jump, "c")
	bare := line("", dup, "")
	at := func(n uint32) api.Instr { return api.Instr{Op: api.OpJump, C: n} }
	for _, row := range []struct {
		l    []api.Asm
		want []api.Instr
		n    int
		err  api.Errno
	}{
		// A label twice: the second one's number.
		{[]api.Asm{a, a}, nil, 1, api.ErrLabel},
		{[]api.Asm{a, b, a}, nil, 2, api.ErrLabel},
		{[]api.Asm{bare, a, bare, a, a}, nil, 3, api.ErrLabel},
		{[]api.Asm{a, b, b, a}, nil, 2, api.ErrLabel},
		{[]api.Asm{toA, a, toA, a}, nil, 3, api.ErrLabel},
		{[]api.Asm{a, line("a", jump, "a")}, nil, 1, api.ErrLabel},
		// A To that is no one's.
		{[]api.Asm{toC}, nil, 0, api.ErrLabel},
		{[]api.Asm{a, toC}, nil, 1, api.ErrLabel},
		{[]api.Asm{a, toC, bare, toC}, nil, 1, api.ErrLabel},
		{[]api.Asm{toA, a, b, toB, toC}, nil, 4, api.ErrLabel},
		{[]api.Asm{line("a", jump, "b")}, nil, 0, api.ErrLabel},
		{[]api.Asm{line("ab", dup, ""), line("", jump, "a")}, nil, 1, api.ErrLabel},
		{[]api.Asm{line("a", dup, ""), line("", jump, "ab")}, nil, 1, api.ErrLabel},
		// Both at once, in either order, in several lines and in one.
		{[]api.Asm{a, a, toC}, nil, 1, api.ErrLabel},
		{[]api.Asm{toC, a, a}, nil, 0, api.ErrLabel},
		{[]api.Asm{a, toC, a}, nil, 1, api.ErrLabel},
		{[]api.Asm{a, bare, line("a", jump, "c")}, nil, 2, api.ErrLabel},
		{[]api.Asm{a, line("a", jump, "c"), toC, a}, nil, 1, api.ErrLabel},
		// A To ahead of its label, behind it, at itself.
		{[]api.Asm{toA, bare, a}, []api.Instr{at(2), dup, dup}, 0, api.OK},
		{[]api.Asm{bare, a, toA}, []api.Instr{dup, dup, at(1)}, 0, api.OK},
		{[]api.Asm{bare, line("a", jump, "a")}, []api.Instr{dup, at(1)}, 0, api.OK},
		{[]api.Asm{line("a", jump, "b"), line("b", zero, "a")}, []api.Instr{at(1), zero}, 0, api.OK},
		{[]api.Asm{toB, toA, b, a, toB, toA}, []api.Instr{{Op: api.OpZero, C: 2}, at(3), dup, dup, {Op: api.OpZero, C: 2}, at(3)}, 0, api.OK},
		// Lines without a label are never found, nor are they twice the same; a number stays one.
		{[]api.Asm{bare, bare, bare}, []api.Instr{dup, dup, dup}, 0, api.OK},
		{[]api.Asm{a, bare, line("", jump, ""), bare}, []api.Instr{dup, dup, at(0), dup}, 0, api.OK},
		{[]api.Asm{bare, a, line("", at(7), ""), line("b", at(math.MaxUint32), "")}, []api.Instr{dup, dup, at(7), at(math.MaxUint32)}, 0, api.OK},
		{[]api.Asm{bare, line("", at(1), ""), toA}, nil, 2, api.ErrLabel},
	} {
		assembles(t, row.l, row.want, row.n, row.err)
	}
}

// P10.1: each number is told, where of well labelled lines one is made amiss.
func TestAssembleEachNumber(t *testing.T) {
	l := from(5).wellLabelled(300)
	want, n, err := assembled(l)
	assembles(t, l, want, n, err)
	if err != api.OK {
		t.Fatal("the lines are not well labelled")
	}
	for at := range l {
		lost := slices.Clone(l)
		lost[at].I, lost[at].To = jump, "none"
		assembles(t, lost, nil, at, api.ErrLabel)
		if at > 0 {
			twice := slices.Clone(l)
			twice[at-1].Label, twice[at].Label, twice[at/2].To = "again", "again", ""
			want, n, err := assembled(twice)
			assembles(t, twice, want, n, err)
		}
	}
}

// P10.1: whatever lines, by the words.
func TestAssembleByTheWords(t *testing.T) {
	f := from(6)
	told := map[api.Errno]int{}
	for range 30_000 {
		l := f.program(f.Below(12))
		if f.Below(2) == 0 {
			l = f.wellLabelled(f.Below(40))
		}
		if f.Below(4) == 0 && len(l) > 0 {
			l[f.Below(len(l))] = f.nearLine()
		}
		want, n, err := assembled(l)
		assembles(t, l, want, n, err)
		told[err]++
	}
	for _, err := range []api.Errno{api.OK, api.ErrArg, api.ErrLabel} {
		if told[err] < 1000 {
			t.Errorf("error %d is told %d times", err, told[err])
		}
	}
}

// P10.2: the bytes of none, of one, and of many, one behind the other, instructions or not.
func TestBytes(t *testing.T) {
	if got := asm.Bytes(nil); len(got) != 0 {
		t.Errorf("the bytes of nil are %v", got)
	}
	if got := asm.Bytes([]api.Instr{}); len(got) != 0 {
		t.Errorf("the bytes of none are %v", got)
	}
	whatever := api.Instr{Op: 200, A: 201, B: 0x0304, C: 0x05060708}
	for _, row := range []struct {
		l    []api.Instr
		want []byte
	}{
		{[]api.Instr{{}}, []byte{0, 0, 0, 0, 0, 0, 0, 0}},
		{[]api.Instr{yield}, []byte{27, 0, 0, 0, 0, 0, 0, 0}},
		{[]api.Instr{whatever}, []byte{200, 201, 4, 3, 8, 7, 6, 5}},
		{[]api.Instr{push1, whatever, {Op: api.OpLoad, A: 2, C: 16}}, []byte{1, 0, 0, 0, 1, 0, 0, 0, 200, 201, 4, 3, 8, 7, 6, 5, 17, 2, 0, 0, 16, 0, 0, 0}},
	} {
		if got := asm.Bytes(row.l); !bytes.Equal(got, row.want) {
			t.Errorf("the bytes of %v are %v, want %v", row.l, got, row.want)
		}
	}
	f := from(7)
	for _, count := range []int{1, 2, 3, 100, maxCode, maxCode + 1, 100_000} {
		l := make([]api.Instr, count)
		for n := range l {
			l[n] = api.Instr{Op: uint8(f.Next()), A: uint8(f.Next()), B: uint16(f.Next()), C: uint32(f.Next())}
		}
		if got := asm.Bytes(l); !bytes.Equal(got, bytesOf(l)) {
			t.Fatalf("the bytes of %d of whatever are not theirs", count)
		}
	}
}

// P10.2: how many bytes there may be: the bound, and whole instructions; whatever they are.
func TestReadLengths(t *testing.T) {
	reads(t, nil, nil, 0, api.OK)
	reads(t, []byte{}, nil, 0, api.OK)
	for _, size := range []int{1, 2, 7, 9, 12, 15, 17, 8*maxCode - 1, 8*maxCode - 7, 8*maxCode - 9} {
		reads(t, make([]byte, size), nil, 0, api.ErrShort)
		reads(t, bytesOf(slices.Repeat([]api.Instr{dup}, maxCode))[:size], nil, 0, api.ErrShort)
	}
	for _, size := range []int{8*maxCode + 1, 8*maxCode + 4, 8*maxCode + 7, 8*maxCode + 8, 8*maxCode + 9, 16 * maxCode, 1 << 22, 1<<22 + 1} {
		reads(t, make([]byte, size), nil, 0, api.ErrLong)
		reads(t, bytesOf(slices.Repeat([]api.Instr{dup}, size/8+1))[:size], nil, 0, api.ErrLong)
	}
	for _, count := range []int{1, 2, 255, 256, 257, maxCode - 1, maxCode} {
		l := make([]api.Instr, count)
		for n := range l {
			l[n] = api.Instr{Op: api.OpPush, C: uint32(n)}
		}
		reads(t, bytesOf(l), l, 0, api.OK)
		reads(t, bytesOf(l)[:8*count-1], nil, 0, api.ErrShort)
	}
}

// P10.2: what is no instruction is told with its number, the first one of several, wherever it stands.
func TestReadNone(t *testing.T) {
	f := from(8)
	for _, count := range []int{1, 2, 3, 100, maxCode} {
		l := make([]api.Instr, count)
		for n := range l {
			l[n] = f.Instr(f.kinds)
		}
		b := bytesOf(l)
		reads(t, b, l, 0, api.OK)
		for _, at := range []int{0, 1, count / 2, count - 2, count - 1} {
			if at < 0 || at >= count {
				continue
			}
			broken := slices.Clone(b)
			copy(broken[8*at:], bytesOf([]api.Instr{none}))
			reads(t, broken, nil, at, api.ErrOp)
			clear(broken[8*at:])
			reads(t, broken, nil, at, api.ErrOp)
			reads(t, broken[:len(broken)-3], nil, 0, api.ErrShort)
		}
	}
	// An instruction that does not begin at a multiple of 8 is not looked for.
	reads(t, append(make([]byte, 4), bytesOf([]api.Instr{yield, yield})[:12]...), nil, 0, api.ErrOp)
}

// P10.2: whatever bytes: each 8 of them are an instruction, or the first that are none are told.
func TestReadByTheWords(t *testing.T) {
	f := from(9)
	for range 20_000 {
		l := make([]api.Instr, f.Below(12))
		for n := range l {
			l[n] = f.Instr(f.kinds)
			if f.Below(20) == 0 {
				l[n] = f.NearInstr(f.kinds)
			}
		}
		b := append(bytesOf(l), f.Bytes(max(0, f.Below(16)-8))...)
		first := slices.IndexFunc(l, func(i api.Instr) bool { return !isa.May(i) })
		switch {
		case len(b) > 8*len(l):
			reads(t, b, nil, 0, api.ErrShort)
		case first >= 0:
			reads(t, b, nil, first, api.ErrOp)
		default:
			reads(t, b, l, 0, api.OK)
		}
	}
}

// P10.3: the text of lines with labels and without, and of what goes to a label.
func TestText(t *testing.T) {
	for _, row := range []struct {
		l    []api.Asm
		want string
	}{
		{nil, ""},
		{[]api.Asm{}, ""},
		{[]api.Asm{line("", dup, "")}, "dup\n"},
		{[]api.Asm{line("a", dup, "")}, "a: dup\n"},
		{[]api.Asm{line("abcdefghijklmnop", push1, "")}, "abcdefghijklmnop: push 1\n"},
		{[]api.Asm{line("", jump, "a")}, "jump a\n"},
		{[]api.Asm{line("a", jump, "a")}, "a: jump a\n"},
		{[]api.Asm{line("b0", zero, "a_0")}, "b0: zero a_0\n"},
		{[]api.Asm{line("", jump, "x00")}, "jump x00\n"},
		{[]api.Asm{line("", jump, ""), line("", zero, "")}, "jump 0\nzero 0\n"},
		{[]api.Asm{line("", api.Instr{Op: api.OpJump, C: 10}, ""), line("a", api.Instr{Op: api.OpZero, C: 100}, "")}, "jump 10\na: zero 100\n"},
		{[]api.Asm{line("", push1, ""), line("l", api.Instr{Op: api.OpLoad, A: 4}, ""), line("", api.Instr{Op: api.OpRead, A: 1, B: 15}, ""), line("", zero, "l"), line("", yield, "")}, "push 1\nl: load4 0\nread 1 15\nzero l\nyield\n"},
		// The same label twice, and one that is no one's, are no matter of the text.
		{[]api.Asm{line("a", dup, ""), line("a", dup, ""), line("", jump, "b")}, "a: dup\na: dup\njump b\n"},
	} {
		if got := asm.Text(row.l); got != row.want {
			t.Errorf("the text of %v is %q, want %q", row.l, got, row.want)
		}
	}
}

// P10.3: the text is empty if something may not be, wherever it stands.
func TestNoText(t *testing.T) {
	f := from(10)
	l := f.program(60)
	if got := asm.Text(l); got != textOf(l) || got == "" {
		t.Fatalf("the text of %v is %q", l, got)
	}
	for at := range l {
		for _, x := range []api.Asm{{}, line("A", dup, ""), line("", none, ""), line("", dup, "a"), line("", api.Instr{Op: api.OpZero, C: 1}, "a"), line("", jump, "a:")} {
			broken := slices.Clone(l)
			broken[at] = x
			if got := asm.Text(broken); got != "" {
				t.Errorf("with %v at %d there is a text, %q", x, at, got)
			}
		}
	}
}

// P10.3: whatever lines, by the words; of more lines than a program may have there is a text too.
func TestTextByTheWords(t *testing.T) {
	f := from(11)
	for range 20_000 {
		l := f.program(f.Below(12))
		if f.Below(4) == 0 && len(l) > 0 {
			l[f.Below(len(l))] = f.nearLine()
		}
		if got, want := asm.Text(l), textOf(l); got != want {
			t.Fatalf("the text of %v is %q, want %q", l, got, want)
		}
	}
	for _, count := range []int{maxCode, maxCode + 1, 100_000} {
		if got := asm.Text(slices.Repeat([]api.Asm{line("a", zero, "b")}, count)); got != strings.Repeat("a: zero b\n", count) {
			t.Errorf("of %d lines the text has %d bytes", count, len(got))
		}
	}
}

// P10.5: instructions are read from their Bytes, and what is read has these bytes.
func TestBytesAreRead(t *testing.T) {
	f := from(12)
	for round := range 3000 {
		l := make([]api.Instr, f.Below(20))
		if round == 0 {
			l = make([]api.Instr, maxCode)
		}
		for n := range l {
			l[n] = f.Instr(f.kinds)
		}
		reads(t, asm.Bytes(l), l, 0, api.OK)
	}
	for range 3000 {
		b := f.Bytes(8 * f.Below(3))
		for at := 0; at < len(b); at += 8 {
			b[at] %= 29
			clear(b[at+1 : at+4])
		}
		if l, _, err := asm.Read(b); err == api.OK && !bytes.Equal(asm.Bytes(l), b) {
			t.Fatalf("%v is read as %v", b, l)
		}
	}
}

// P10.5: what is assembled is read from its bytes.
func TestAssembledIsRead(t *testing.T) {
	f := from(13)
	for range 2000 {
		code, _, err := asm.Assemble(f.wellLabelled(f.Below(40)))
		if err != api.OK {
			t.Fatalf("what is well labelled has error %d", err)
		}
		reads(t, asm.Bytes(code), code, 0, api.OK)
	}
}

// R3, R5: lines are neither changed nor kept, and the same again are told as the same.
func TestLinesGoByThemselves(t *testing.T) {
	f := from(14)
	for range 3000 {
		whole := f.program(f.Below(12) + 3)
		l := whole[1 : len(whole)-1]
		if f.Below(2) == 0 {
			copy(l, f.wellLabelled(len(l)))
		}
		before := slices.Clone(whole)
		code, n, err := asm.Assemble(l)
		told := slices.Clone(code)
		text := asm.Text(l)
		asm.May(l[0])
		if !slices.Equal(whole, before) {
			t.Fatalf("%v are changed to %v", before, whole)
		}
		_ = append(code, none)
		for n := range code {
			code[n] = none
		}
		if !slices.Equal(whole, before) {
			t.Fatal("instructions that are told share memory with lines")
		}
		assembles(t, l, told, n, err)
		if asm.Text(l) != text {
			t.Fatal("the text is another one each time")
		}
		code, _, _ = asm.Assemble(l)
		clear(whole)
		if !slices.Equal(code, told) {
			t.Fatal("lines that were changed behind Assemble change what it told")
		}
	}
}

// R3, R5: instructions and bytes are neither changed nor kept.
func TestCodeGoesByItself(t *testing.T) {
	f := from(15)
	for range 3000 {
		whole := make([]api.Instr, f.Below(12)+2)
		for n := range whole {
			whole[n] = f.Instr(f.kinds)
		}
		before := slices.Clone(whole)
		l := whole[1 : len(whole)-1]
		b := asm.Bytes(l)
		_ = append(b, 1, 2, 3, 4, 5, 6, 7, 8)
		bytesBefore := slices.Clone(b)
		code, _, err := asm.Read(b)
		_ = append(code, none)
		if err != api.OK || !slices.Equal(whole, before) || !bytes.Equal(b, bytesBefore) {
			t.Fatalf("%v are changed to %v, or %v to %v", before, whole, bytesBefore, b)
		}
		clear(b)
		if !slices.Equal(code, l) || !slices.Equal(whole, before) {
			t.Fatal("bytes that were changed change instructions")
		}
		b = asm.Bytes(l)
		clear(whole)
		if !bytes.Equal(b, bytesBefore) || !slices.Equal(code, before[1:len(before)-1]) {
			t.Fatal("instructions that were changed change what was told")
		}
	}
}
