package asm_test

import (
	"math/big"
	"regexp"
	"slices"
	"strconv"
	"strings"

	"tappet/api"
	"tappet/isa"
	"tappet/sample"
)

// What the chapter says, word by word, is written here a second time, to be held against asm.

var (
	labels  = regexp.MustCompile(`^[a-z][a-z0-9_]*$`)
	numbers = regexp.MustCompile(`^(0|[1-9][0-9]*)$`)
)

// isLabel tells whether it is a label by the words.
func isLabel(s string) bool { return len(s) <= 16 && labels.MatchString(s) }

// mayBe is May by the words.
func mayBe(x api.Asm) bool {
	label := x.Label == "" || isLabel(x.Label)
	to := x.To == "" || isLabel(x.To) && (x.I.Op == api.OpJump || x.I.Op == api.OpZero) && x.I.C == 0
	return label && to && isa.May(x.I)
}

// assembled is Assemble by the words: each line is held against all others.
func assembled(l []api.Asm) ([]api.Instr, int, api.Errno) {
	if len(l) > 16384 {
		return nil, 0, api.ErrLong
	}
	for n, x := range l {
		if !mayBe(x) {
			return nil, n, api.ErrArg
		}
	}
	var code []api.Instr
	for n, x := range l {
		for _, other := range l[:n] {
			if x.Label != "" && other.Label == x.Label {
				return nil, n, api.ErrLabel
			}
		}
		i := x.I
		if x.To != "" {
			place := slices.IndexFunc(l, func(other api.Asm) bool { return other.Label == x.To })
			if place < 0 {
				return nil, n, api.ErrLabel
			}
			i.C = uint32(place)
		}
		code = append(code, i)
	}
	return code, 0, api.OK
}

// bytesOf is Bytes by the words.
func bytesOf(l []api.Instr) []byte {
	var b []byte
	for _, i := range l {
		b = append(b, i.Op, i.A, byte(i.B%256), byte(i.B/256), byte(i.C%256), byte(i.C/256%256), byte(i.C/65536%256), byte(i.C/65536/256))
	}
	return b
}

// textOf is Text by the words.
func textOf(l []api.Asm) string {
	text := ""
	for _, x := range l {
		if !mayBe(x) {
			return ""
		}
		words := strings.Split(isa.Text(x.I), " ")
		if x.To != "" {
			words[1] = x.To
		}
		if x.Label != "" {
			words = append([]string{x.Label + ":"}, words...)
		}
		text += strings.Join(words, " ") + "\n"
	}
	return text
}

// form is what stands behind a name: the instruction that it begins, and what the words behind it are.
type form struct {
	i     api.Instr
	names string // A, AB or C, or nothing
}

// forms answers what stands behind each name, by chapter 9's table.
func forms() map[string]form {
	all := map[string]form{}
	for _, k := range sample.Kinds() {
		names := ""
		if k.As != nil {
			names += "A"
		}
		if k.Bs != nil {
			names += "B"
		}
		if k.C {
			names += "C"
		}
		if k.Digit == nil {
			all[k.Name] = form{api.Instr{Op: k.Op}, names}
		}
		for _, digit := range k.Digit {
			all[k.Name+strconv.Itoa(int(digit))] = form{api.Instr{Op: k.Op, A: digit}, names}
		}
	}
	return all
}

// linesOf answers a text's lines, byte by byte.
func linesOf(s string) []string {
	l := []string{""}
	for n := range len(s) {
		if s[n] == 10 {
			l = append(l, "")
			continue
		}
		l[len(l)-1] += s[n : n+1]
	}
	return l
}

// wordsOf answers a line's words, byte by byte.
func wordsOf(line string) []string {
	var l []string
	word := ""
	for n := range len(line) {
		if line[n] == ';' {
			break
		}
		if line[n] != 32 {
			word += line[n : n+1]
			continue
		}
		if word != "" {
			l = append(l, word)
		}
		word = ""
	}
	if word != "" {
		l = append(l, word)
	}
	return l
}

// parsed is Parse by the words.
func parsed(s string, all map[string]form) ([]api.Asm, int, api.Errno) {
	if len(s) > 1<<19 {
		return nil, 0, api.ErrLong
	}
	var l []api.Asm
	for n, line := range linesOf(s) {
		words := wordsOf(line)
		if len(words) == 0 {
			continue
		}
		x, err := parsedLine(words, all)
		if err == api.OK && len(l) == 16384 {
			err = api.ErrLong
		}
		if err != api.OK {
			return nil, n + 1, err
		}
		l = append(l, x)
	}
	return l, 0, api.OK
}

// parsedLine is what Parse tells of one line, by the words.
func parsedLine(words []string, all map[string]form) (api.Asm, api.Errno) {
	var x api.Asm
	if strings.HasSuffix(words[0], ":") {
		x.Label = words[0][:len(words[0])-1]
		words = words[1:]
		if !isLabel(x.Label) {
			return api.Asm{}, api.ErrLabel
		}
	}
	if len(words) == 0 {
		return api.Asm{}, api.ErrWord
	}
	f, there := all[words[0]]
	words = words[1:]
	if !there || len(words) != len(f.names) {
		return api.Asm{}, api.ErrWord
	}
	x.I = f.i
	if (x.I.Op == 19 || x.I.Op == 20) && isLabel(words[0]) {
		x.To = words[0]
		return x, api.OK
	}
	for n, word := range words {
		most := map[byte]int64{'A': 15, 'B': 15, 'C': 4294967295}[f.names[n]]
		number, _ := new(big.Int).SetString(word, 10)
		if !numbers.MatchString(word) || number.Cmp(big.NewInt(most)) > 0 {
			return api.Asm{}, api.ErrValue
		}
		switch f.names[n] {
		case 'A':
			x.I.A = uint8(number.Int64())
		case 'B':
			x.I.B = uint16(number.Int64())
		case 'C':
			x.I.C = uint32(number.Int64())
		}
	}
	return x, api.OK
}

// feed makes up programs and texts, alike in each run.
type feed struct {
	*sample.Row
	kinds []sample.Kind
}

// from answers a feed; unlike seeds have unlike ones.
func from(seed uint64) feed { return feed{sample.From(seed), sample.Kinds()} }

// one answers one of a list.
func one[T any](f feed, l ...T) T { return l[f.Below(len(l))] }

// label answers a label, most often one of a few.
func (f feed) label() string {
	if f.Below(4) > 0 {
		return one(f, "a", "b", "c1", "d_", "push", "load1")
	}
	const first, all = "abcdefghijklmnopqrstuvwxyz", "abcdefghijklmnopqrstuvwxyz0123456789_"
	b := []byte{first[f.Below(len(first))]}
	for range f.Below(16) {
		b = append(b, all[f.Below(len(all))])
	}
	return string(b)
}

// noLabel answers what is near to a label, and none.
func (f feed) noLabel() string {
	return one(f, "A", "_", "1", "a ", " a", "a:", ":", "a;", "aB", "a-", "a\n", "\n", "é", "aé", "\xff", "a\x00", "abcdefghijklmnopq", "a.b")
}

// line answers a line of a program that may be.
func (f feed) line() api.Asm {
	x := api.Asm{I: f.Instr(f.kinds)}
	if f.Below(3) == 0 {
		x.Label = f.label()
	}
	if isa.Jumps(x.I.Op) && f.Below(3) > 0 {
		x.I.C, x.To = 0, f.label()
	}
	return x
}

// nearLine answers a line of a program, with one thing that may not be, or seldom may.
func (f feed) nearLine() api.Asm {
	x := f.line()
	switch f.Below(5) {
	case 0:
		x.Label = f.noLabel()
	case 1:
		x.To = f.noLabel()
	case 2:
		x.To = f.label()
	case 3:
		x.I = f.NearInstr(f.kinds)
	case 4:
		x.I.C = uint32(f.Next())
	}
	return x
}

// program answers lines that may be, some of which may have the same label, or one that is no one's.
func (f feed) program(count int) []api.Asm {
	l := make([]api.Asm, count)
	for n := range l {
		l[n] = f.line()
	}
	return l
}

// wellLabelled answers lines in which no label stands twice, and each To is a label that stands there.
func (f feed) wellLabelled(count int) []api.Asm {
	l := f.program(count)
	var there []string
	for n := range l {
		if l[n].Label != "" {
			l[n].Label = "l" + strconv.Itoa(n)
			there = append(there, l[n].Label)
		}
	}
	for n := range l {
		if l[n].To != "" && len(there) > 0 {
			l[n].To = one(f, there...)
		} else {
			l[n].To = ""
		}
	}
	return l
}

// blanks answers some bytes 32, at least that many.
func (f feed) blanks(least int) string { return strings.Repeat(" ", least+f.Below(3)*f.Below(2)) }

// number answers digits: most often those of a number of a few.
func (f feed) number() string {
	if f.Below(3) > 0 {
		return strconv.Itoa(f.Below(20))
	}
	return one(f, "0", "15", "16", "255", "256", "271", "65535", "65536", "65551", "4294967295", "4294967296", "4294967311", "00", "01", "+1", "-1", "1a", "a1", "0x1", "1_0", "99999999999999999999999")
}

// name answers a name of an instruction, seldom one that is none.
func (f feed) name() string {
	if f.Below(20) == 0 {
		return one(f, "load", "store", "load0", "load3", "store8", "push1", "in1", "dup0", "PUSH", "hop", "a", "7", "add:", "jump0", "\tdup", "dup\r", "é")
	}
	return strings.Fields(isa.Text(f.Instr(f.kinds)))[0]
}

// wordsBehind answers words for behind a name, most often as many as it wants.
func (f feed) wordsBehind(name string, all map[string]form) []string {
	var l []string
	count := len(all[name].names)
	if f.Below(12) == 0 {
		count = f.Below(4)
	}
	for range count {
		switch word := f.number(); f.Below(12) {
		case 0:
			l = append(l, one(f, f.noLabel(), f.label()+"\t", "é", ":"))
		case 1, 2, 3:
			if isa.Jumps(all[name].i.Op) {
				word = f.label()
			}
			l = append(l, word)
		default:
			l = append(l, word)
		}
	}
	return l
}

// textLine answers a line of a text: most often one that is a program's.
func (f feed) textLine(all map[string]form) string {
	line := f.blanks(0)
	if f.Below(8) == 0 {
		return line + one(f, "", ";", "; dup", ";a: hop 1", ";;")
	}
	switch f.Below(10) {
	case 0:
		line += f.noLabel() + ":" + f.blanks(0)
	case 1, 2, 3:
		line += f.label() + ":" + f.blanks(1)
	}
	if f.Below(30) > 0 {
		name := f.name()
		line += name
		for _, word := range f.wordsBehind(name, all) {
			line += f.blanks(1) + word
		}
	}
	line += f.blanks(0)
	if f.Below(5) == 0 {
		line += one(f, ";", ";a remark", "; a: dup", ";;\t")
	}
	return line
}

// text answers a text of a few lines, with or without a byte 10 at its end.
func (f feed) text(all map[string]form) string {
	var l []string
	for range f.Below(8) {
		l = append(l, f.textLine(all))
	}
	return strings.Join(l, "\n") + one(f, "", "\n", "\n\n")
}
