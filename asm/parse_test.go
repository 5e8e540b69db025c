package asm_test

import (
	"slices"
	"strconv"
	"strings"
	"testing"

	"tappet/api"
	"tappet/asm"
	"tappet/sample"
)

const maxBytes = 1 << 19

// parses fails the test unless Parse of the text tells that.
func parses(t *testing.T, s string, want []api.Asm, wantN int, wantErr api.Errno) {
	t.Helper()
	got, n, err := asm.Parse(s)
	if !slices.Equal(got, want) || n != wantN || err != wantErr {
		t.Fatalf("Parse(%.300q) tells %s, %d, %d; want %s, %d, %d", s, short(got), n, err, short(want), wantN, wantErr)
	}
}

// parsesOne fails the test unless Parse of the text tells this line alone.
func parsesOne(t *testing.T, s string, want api.Asm) {
	t.Helper()
	parses(t, s, []api.Asm{want}, 0, api.OK)
}

// fails fails the test unless Parse of the line tells that error, in a text of its own and in one of several lines.
func fails(t *testing.T, s string, want api.Errno) {
	t.Helper()
	parses(t, s, nil, 1, want)
	parses(t, s+"\n", nil, 1, want)
	parses(t, "\ndup\n; a\n"+s+"\nhop\n", nil, 4, want)
}

// P10.4: no line of a program stands in a text of blanks, bytes 10 and remarks alone.
func TestParseNothing(t *testing.T) {
	for _, s := range []string{
		"", " ", "    ", "\n", "\n\n\n", " \n", "\n ", " \n  \n   ", ";", ";\n", "; dup", ";dup\n;A: hop", "  ;", "  ; hop \n ;;\n\n", ";\t\r\x00\xff", "; a: b: c\n",
		strings.Repeat(" ", 10_000), strings.Repeat("\n", 100_000), strings.Repeat(";\n", 50_000),
	} {
		parses(t, s, nil, 0, api.OK)
	}
}

// P10.4: the last line has a byte 10 at its end or not; lines without words are none.
func TestParseLines(t *testing.T) {
	two := []api.Asm{line("", dup, ""), line("", yield, "")}
	for _, s := range []string{"dup\nyield", "dup\nyield\n", "dup\nyield\n\n", "\ndup\n\n\nyield", "dup\n;\nyield\n;", " dup \n \n yield ", "dup;\nyield;", "; one\ndup\n; two\nyield; three\n"} {
		parses(t, s, two, 0, api.OK)
	}
	// Nothing but a byte 10 ends a line.
	fails(t, "dup yield", api.ErrWord)
	fails(t, "dup\ryield", api.ErrWord)
	fails(t, "dup\vyield", api.ErrWord)
	fails(t, "dup\u2028yield", api.ErrWord)
	fails(t, "dup\u0085yield", api.ErrWord)
}

// P10.4: what stands behind a ; counts for nothing, wherever that stands.
func TestParseRemarks(t *testing.T) {
	parsesOne(t, "dup;one", line("", dup, ""))
	parsesOne(t, "dup ;one", line("", dup, ""))
	parsesOne(t, "dup ; a ; b", line("", dup, ""))
	parsesOne(t, "dup;;", line("", dup, ""))
	parsesOne(t, "push 1;2", line("", push1, ""))
	parsesOne(t, "push 1; 2", line("", push1, ""))
	parsesOne(t, "a: jump b;c", line("a", jump, "b"))
	parsesOne(t, "dup;\t\r\xff", line("", dup, ""))
	parsesOne(t, ";a: dup\nyield", line("", yield, ""))
	parsesOne(t, "; a: hop\nb: yield", line("b", yield, ""))
	fails(t, "a:;dup", api.ErrWord)
	fails(t, "a: ; dup", api.ErrWord)
	fails(t, "a;: dup", api.ErrWord)
	fails(t, "push ;1", api.ErrWord)
	fails(t, "push;1", api.ErrWord)
	fails(t, "pu;sh 1", api.ErrWord)
	fails(t, "A:;", api.ErrLabel)
	fails(t, "in 16; 1", api.ErrValue)
}

// P10.4: one and many bytes 32 around words.
func TestParseBlanks(t *testing.T) {
	many := strings.Repeat(" ", 1000)
	for _, blank := range []string{" ", "  ", many} {
		parsesOne(t, blank+"dup", line("", dup, ""))
		parsesOne(t, "dup"+blank, line("", dup, ""))
		parsesOne(t, blank+"push"+blank+"1"+blank, line("", push1, ""))
		parsesOne(t, "a:"+blank+"push"+blank+"1", line("a", push1, ""))
		parsesOne(t, blank+"a:"+blank+"read"+blank+"1"+blank+"2"+blank+";"+blank, line("a", api.Instr{Op: api.OpRead, A: 1, B: 2}, ""))
		parsesOne(t, blank+"jump"+blank+"a"+blank, line("", jump, "a"))
	}
	fails(t, "push1", api.ErrWord)
	fails(t, "a:dup", api.ErrWord)
	fails(t, "pu sh 1", api.ErrWord)
	fails(t, "push 1 2", api.ErrWord)
	fails(t, "read 12", api.ErrWord)
}

// P10.4: no other byte, and no other text that elsewhere is a blank, is one.
func TestParseNoBlanks(t *testing.T) {
	for _, c := range []string{"\t", "\r", "\v", "\f", "\x00", "\x1f", "\x7f", "\x85", "\xa0", "\xff", "\u00a0", "\u2003", "\u3000", "\u0085", "\ufeff", "_", ","} {
		fails(t, c, api.ErrWord)
		fails(t, c+"dup", api.ErrWord)
		fails(t, "dup"+c, api.ErrWord)
		fails(t, c+" dup", api.ErrWord)
		fails(t, "dup "+c, api.ErrWord)
		fails(t, "push"+c+"1", api.ErrWord)
		fails(t, "push "+c+"1", api.ErrValue)
		fails(t, "push 1"+c, api.ErrValue)
		fails(t, "push 1 "+c, api.ErrWord)
		fails(t, "a:"+c+"dup", api.ErrWord)
		fails(t, "a: "+c+"dup", api.ErrWord)
		fails(t, c+"a: dup", api.ErrLabel)
		fails(t, "read 1"+c+"2", api.ErrWord)
		fails(t, "jump "+c+"a", api.ErrValue)
		if c != "_" {
			fails(t, "jump a"+c, api.ErrValue)
			fails(t, "a"+c+": dup", api.ErrLabel)
		}
	}
	for c := range 256 {
		b := string([]byte{byte(c)})
		want := map[bool]api.Errno{true: api.OK, false: api.ErrWord}[c == ' ' || c == '\n' || c == ';']
		for _, s := range []string{b + "dup", "dup" + b} {
			if _, _, err := asm.Parse(s); err != want && s != ";dup" && s != "dup:" {
				t.Errorf("Parse(%q) tells %d, want %d", s, err, want)
			}
		}
	}
}

// P10.4: what is a label ahead of an instruction, and that something must stand behind it.
func TestParseLabels(t *testing.T) {
	for _, label := range []string{"a", "z", "a1", "a_", "dup", "load1", "abcdefghijklmno", "abcdefghijklmnop", "z_______________"} {
		parsesOne(t, label+": dup", line(label, dup, ""))
		parsesOne(t, label+": jump "+label, line(label, jump, label))
		fails(t, label+":", api.ErrWord)
		fails(t, label+": ", api.ErrWord)
		fails(t, label+": ; dup", api.ErrWord)
		fails(t, label+": "+label+":", api.ErrWord)
		fails(t, label+": "+label+": dup", api.ErrWord)
		fails(t, label+" : dup", api.ErrWord)
		fails(t, label+":dup", api.ErrWord)
		fails(t, label+":: dup", api.ErrLabel)
		fails(t, ":"+label+": dup", api.ErrLabel)
		fails(t, label+": :", api.ErrWord)
		fails(t, "dup "+label+":", api.ErrWord)
		fails(t, "push "+label+":", api.ErrValue)
		fails(t, "jump "+label+":", api.ErrValue)
		// What stands on a line of its own is that line's alone.
		parses(t, label+":\ndup", nil, 1, api.ErrWord)
	}
	for _, label := range []string{"", "A", "aA", "1", "1a", "_", "_a", "abcdefghijklmnopq", strings.Repeat("a", 1000), "a-b", "a.b", "é", "aé", "a\xff", ":", "a:", ":a", "\t", "a\t", "+", "0"} {
		fails(t, label+": dup", api.ErrLabel)
		fails(t, label+":", api.ErrLabel)
		fails(t, " "+label+":  ; dup", api.ErrLabel)
		fails(t, label+": hop", api.ErrLabel)
		fails(t, label+": push 01", api.ErrLabel)
		fails(t, label+": a: dup", api.ErrLabel)
	}
	// The same label may stand in several lines of a text.
	parses(t, "a: dup\na: dup\njump b", []api.Asm{line("a", dup, ""), line("a", dup, ""), line("", jump, "b")}, 0, api.OK)
}

// P10.4: each name, with just the words that it wants, with one fewer, with one more, and with many more.
func TestParseNames(t *testing.T) {
	all := forms()
	if len(all) != 27-2+2*3 {
		t.Fatalf("there are %d names", len(all))
	}
	for name, f := range all {
		for _, label := range []string{"", "a"} {
			s, want := name, line(label, f.i, "")
			if label != "" {
				s = label + ": " + name
			}
			for n, what := range f.names {
				fails(t, s, api.ErrWord)
				s += " " + strconv.Itoa(n+7)
				switch what {
				case 'A':
					want.I.A = uint8(n + 7)
				case 'B':
					want.I.B = uint16(n + 7)
				case 'C':
					want.I.C = uint32(n + 7)
				}
			}
			parsesOne(t, s, want)
			for _, more := range []string{" 7", " a", " dup", " :", " a:", " 01", " \t", strings.Repeat(" 1", 1000)} {
				fails(t, s+more, api.ErrWord)
			}
			parsesOne(t, s+" ; 7", want)
		}
	}
}

// P10.4: what is near to a name is none; of load and store just 1, 2 and 4 stand behind.
func TestParseNoNames(t *testing.T) {
	parsesOne(t, "load1 16", line("", api.Instr{Op: api.OpLoad, A: 1, C: 16}, ""))
	parsesOne(t, "load2 0", line("", api.Instr{Op: api.OpLoad, A: 2}, ""))
	parsesOne(t, "store4 16", line("", api.Instr{Op: api.OpStore, A: 4, C: 16}, ""))
	all := forms()
	near := []string{
		"load", "store", "load0", "load3", "load5", "load8", "load9", "store0", "store3", "store8", "load01", "load11", "load12", "load14", "load22", "load44", "load1x", "load_1", "1load", "loa1", "load\x01", "load+1",
		"push1", "hop", "nop", "halt", "Push", "PUSH", "pus", "pushh", "1", "4", "0", "_", "a", "add,", "\"dup\"", "é", "\xff", "op", "27",
	}
	for _, k := range sample.Kinds() {
		for digit := range 10 {
			near = append(near, k.Name+strconv.Itoa(digit), strconv.Itoa(digit)+k.Name)
		}
		near = append(near, strings.ToUpper(k.Name), k.Name+"s", k.Name[1:], k.Name[:len(k.Name)-1], k.Name+k.Name)
	}
	for _, name := range near {
		if _, there := all[name]; there {
			continue
		}
		for _, behind := range []string{"", " 0", " 1", " a", " 1 2", " 01", " 1 2 3"} {
			fails(t, name+behind, api.ErrWord)
			fails(t, "a: "+name+behind, api.ErrWord)
		}
	}
}

// P10.4: what is a number, of what names one without a bound of its own.
func TestParseNumbers(t *testing.T) {
	for _, head := range []struct {
		name string
		i    api.Instr
	}{
		{"push", api.Instr{Op: api.OpPush}}, {"jump", jump}, {"zero", zero},
		{"load1", api.Instr{Op: api.OpLoad, A: 1}}, {"load2", api.Instr{Op: api.OpLoad, A: 2}}, {"load4", api.Instr{Op: api.OpLoad, A: 4}},
		{"store1", api.Instr{Op: api.OpStore, A: 1}}, {"store2", api.Instr{Op: api.OpStore, A: 2}}, {"store4", api.Instr{Op: api.OpStore, A: 4}},
	} {
		for _, c := range []uint32{0, 1, 9, 10, 15, 16, 99, 100, 255, 256, 1000, 65535, 65536, 16777216, 2147483647, 2147483648, 4000000000, 4294967294, 4294967295} {
			want := head.i
			want.C = c
			parsesOne(t, head.name+" "+strconv.FormatUint(uint64(c), 10), line("", want, ""))
		}
		for _, word := range []string{
			"00", "01", "000", "010", "0000000001", "00000000000000000000000000000000", "4294967296", "4294967297", "4294967311", "42949672950", "8589934592", "9999999999",
			"18446744073709551615", "18446744073709551616", "18446744073709551617", "99999999999999999999", strings.Repeat("9", 1000), strings.Repeat("1", 100_000), "1" + strings.Repeat("0", 1000),
			"+0", "+1", "-0", "-1", "+", "-", "--1", "1+", "1-", "0x1", "0x10", "0b1", "0o7", "1_0", "1,0", "1.0", "1.", ".1", "1e3", "1a", "1:", "٣", "1٣", "\xff", "1\xff", "１", "_1", "A", "Inf",
		} {
			fails(t, head.name+" "+word, api.ErrValue)
			fails(t, "a: "+head.name+" "+word+" ; 1", api.ErrValue)
		}
	}
}

// P10.4: numbers that an instruction bounds, each in its place, with all that are the same in fewer bits.
func TestParseBounds(t *testing.T) {
	for name, f := range forms() {
		if f.names != "A" && f.names != "AB" {
			continue
		}
		for at := range f.names {
			for _, word := range []string{"0", "1", "8", "9", "10", "14", "15", "16", "17", "31", "32", "240", "255", "256", "257", "271", "272", "512", "65535", "65536", "65537", "65551", "65552", "16777216", "4294967295", "4294967296", "4294967297", "00", "01", "015", "+1", "-1", "a", "1a", "f", "0xf"} {
				words := slices.Repeat([]string{"3"}, len(f.names))
				words[at] = word
				s := name + " " + strings.Join(words, " ")
				x, err := strconv.Atoi(word)
				if err != nil || strconv.Itoa(x) != word || x < 0 || x > 15 {
					fails(t, s, api.ErrValue)
					continue
				}
				want := f.i
				want.A = 3
				if len(f.names) == 2 {
					want.B = 3
				}
				if at == 0 {
					want.A = uint8(x)
				} else {
					want.B = uint16(x)
				}
				parsesOne(t, s, line("", want, ""))
			}
		}
	}
	fails(t, "read 16 16", api.ErrValue)
	fails(t, "put 256 65536", api.ErrValue)
	fails(t, "read 16 x", api.ErrValue)
}

// P10.4: jump and zero go to a number or a label; where another one asks for a number a label is none.
func TestParseJumps(t *testing.T) {
	for name, i := range map[string]api.Instr{"jump": jump, "zero": zero} {
		for _, to := range []string{"a", "z9", "a_", "jump", "dup", "load1", "abcdefghijklmno", "abcdefghijklmnop"} {
			parsesOne(t, name+" "+to, line("", i, to))
			parsesOne(t, "b: "+name+"  "+to+";", line("b", i, to))
		}
		for _, to := range []string{"abcdefghijklmnopq", "a1234567890123456", strings.Repeat("b", 500), "A", "aA", "_", "_a", "1a", "0a", "a:", ":", ":a", "a-b", "a,", "é", "aé", "a\t", "\xff", "01", "+1", "-1", "4294967296", "00"} {
			fails(t, name+" "+to, api.ErrValue)
			fails(t, "a: "+name+" "+to, api.ErrValue)
		}
		fails(t, name+" a b", api.ErrWord)
		fails(t, name+" a 1", api.ErrWord)
		fails(t, name+" 1 a", api.ErrWord)
		fails(t, name, api.ErrWord)
	}
	for name, f := range forms() {
		if f.names == "" || name == "jump" || name == "zero" {
			continue
		}
		for at := range f.names {
			words := slices.Repeat([]string{"3"}, len(f.names))
			words[at] = "a"
			fails(t, name+" "+strings.Join(words, " "), api.ErrValue)
			fails(t, "a: "+name+" "+strings.Join(words, " ")+"\na: dup", api.ErrValue)
		}
	}
}

// P10.4: the first line that is amiss is told, with its number in the text, from 1 on: lines without words are counted too.
func TestParseFirstLine(t *testing.T) {
	amiss := []struct {
		line string
		err  api.Errno
	}{{"A: dup", api.ErrLabel}, {"hop", api.ErrWord}, {"push", api.ErrWord}, {"push 01", api.ErrValue}, {"in 16", api.ErrValue}, {"jump A", api.ErrValue}}
	ahead := []string{"dup", "", " ", "; hop", "a: jump b ; one", "push 7", "   ;", "yield"}
	for _, one := range amiss {
		for _, other := range amiss {
			for count := range 20 {
				text := ""
				for n := range count {
					text += ahead[n%len(ahead)] + "\n"
				}
				parses(t, text+one.line, nil, count+1, one.err)
				parses(t, text+one.line+"\n", nil, count+1, one.err)
				parses(t, text+one.line+"\n"+other.line+"\n", nil, count+1, one.err)
				parses(t, text+one.line+"\n\n;\n"+text+other.line, nil, count+1, one.err)
			}
		}
		parses(t, strings.Repeat("\n", 100_000)+one.line, nil, 100_001, one.err)
		parses(t, strings.Repeat("dup\n\n;\n", 10_000)+" "+one.line, nil, 30_001, one.err)
	}
}

// P10.4: of what is amiss in one line the first is told: its label, its words, their values.
func TestParseOrder(t *testing.T) {
	for _, label := range []string{"A:", ":", "1:", "abcdefghijklmnopq:"} {
		for _, rest := range []string{"", " dup", " hop", " hop 1", " push", " push 1 2", " push 01", " in 16", " jump A", " jump a b"} {
			fails(t, label+rest, api.ErrLabel)
		}
	}
	for _, label := range []string{"", "a: "} {
		for _, s := range []string{"hop 01", "push 01 1", "push 01 01", "push a 1", "in 16 16", "in 16 1", "read 16", "read 01", "read x", "read 16 16 16", "dup 01", "dup a", "jump A b", "jump A B", "load 01", "load3 01", "load 4294967296"} {
			fails(t, label+s, api.ErrWord)
		}
	}
}

// P10.4: so many bytes are a text, whatever they are, and one more are none, ahead of all else.
func TestParseLong(t *testing.T) {
	parses(t, strings.Repeat(" ", maxBytes), nil, 0, api.OK)
	parses(t, strings.Repeat("\n", maxBytes), nil, 0, api.OK)
	parses(t, ";"+strings.Repeat("x", maxBytes-1), nil, 0, api.OK)
	parses(t, strings.Repeat("x", maxBytes), nil, 1, api.ErrWord)
	parses(t, strings.Repeat(":", maxBytes), nil, 1, api.ErrLabel)
	parses(t, "push "+strings.Repeat("1", maxBytes-5), nil, 1, api.ErrValue)
	parses(t, "jump "+strings.Repeat("a", maxBytes-5), nil, 1, api.ErrValue)
	parses(t, strings.Repeat("1 ", maxBytes/2), nil, 1, api.ErrWord)
	parses(t, strings.Repeat("\n", maxBytes-1)+"x", nil, maxBytes, api.ErrWord)
	parsesOne(t, strings.Repeat("\n", maxBytes-3)+"dup", line("", dup, ""))
	parsesOne(t, "dup"+strings.Repeat(" ", maxBytes-3), line("", dup, ""))
	for _, size := range []int{maxBytes + 1, maxBytes + 2, 2 * maxBytes, 1 << 22} {
		for _, c := range []string{" ", "\n", ";", "x", ":", "1", "\xff"} {
			parses(t, strings.Repeat(c, size), nil, 0, api.ErrLong)
		}
		parses(t, "hop\n"+strings.Repeat(" ", size-4), nil, 0, api.ErrLong)
		parses(t, "A: dup\n"+strings.Repeat("\n", size-7), nil, 0, api.ErrLong)
		parses(t, "dup"+strings.Repeat(" ", size-3), nil, 0, api.ErrLong)
	}
	parses(t, strings.Repeat("dup\n", maxBytes/4), nil, maxCode+1, api.ErrLong)
	parses(t, strings.Repeat("dup\n", maxBytes/4)+"\n", nil, 0, api.ErrLong)
}

// P10.4: so many lines are a program; one more is too many, with its number in the text, if nothing else is amiss with it.
func TestParseMaxCode(t *testing.T) {
	for _, each := range []string{"dup\n", "\ndup\n", "; a\ndup ; b\n\n"} {
		lines := strings.Count(each, "\n")
		ahead := strings.Count(each[:strings.Index(each, "dup")], "\n")
		full := strings.Repeat(each, maxCode)
		want := slices.Repeat([]api.Asm{line("", dup, "")}, maxCode)
		parses(t, full, want, 0, api.OK)
		parses(t, strings.TrimRight(full, "\n"), want, 0, api.OK)
		parses(t, full+"\n ; \n", want, 0, api.OK)
		parses(t, strings.Repeat(each, maxCode-1), want[1:], 0, api.OK)
		parses(t, full+each, nil, lines*maxCode+ahead+1, api.ErrLong)
		parses(t, full+each+each, nil, lines*maxCode+ahead+1, api.ErrLong)
		parses(t, full+"a: jump a", nil, lines*maxCode+1, api.ErrLong)
		parses(t, full+"\n\ndup\nhop", nil, lines*maxCode+3, api.ErrLong)
		parses(t, full+"A: dup\n", nil, lines*maxCode+1, api.ErrLabel)
		parses(t, full+"hop\n", nil, lines*maxCode+1, api.ErrWord)
		parses(t, full+"a:\n", nil, lines*maxCode+1, api.ErrWord)
		parses(t, full+"in 16\n", nil, lines*maxCode+1, api.ErrValue)
		parses(t, full+"jump A\ndup", nil, lines*maxCode+1, api.ErrValue)
		parses(t, "hop\n"+full+each, nil, 1, api.ErrWord)
	}
}

// P10.4: whatever texts, by the words.
func TestParseByTheWords(t *testing.T) {
	f, all := from(16), forms()
	told := map[api.Errno]int{}
	hold := func(s string) {
		want, n, err := parsed(s, all)
		parses(t, s, want, n, err)
		told[err]++
	}
	for range 60_000 {
		hold(f.text(all))
	}
	// A text of a program with one byte another one, left out, or put in.
	for range 60_000 {
		b := []byte(asm.Text(f.program(f.Below(4) + 1)))
		at := f.Below(len(b))
		c := one(f, byte(f.Next()), ' ', ';', ':', '\n', '0', '1', '9', 'a', '_', '\t')
		switch f.Below(3) {
		case 0:
			b[at] = c
		case 1:
			b = slices.Delete(b, at, at+1)
		case 2:
			b = slices.Insert(b, at, c)
		}
		hold(string(b))
	}
	for range 20_000 {
		hold(string(f.Bytes(f.Below(20))))
	}
	for _, err := range []api.Errno{api.OK, api.ErrLabel, api.ErrWord, api.ErrValue} {
		if told[err] < 3000 {
			t.Errorf("error %d is told %d times", err, told[err])
		}
	}
}

// P10.5: what Text tells is parsed as it was: of each line that there is, of programs, and of the most lines.
func TestTextIsParsed(t *testing.T) {
	f := from(17)
	for range 5000 {
		l := f.program(f.Below(30) + 1)
		parses(t, asm.Text(l), l, 0, api.OK)
	}
	for range 20 {
		l := f.program(maxCode)
		if text := asm.Text(l); len(text) <= maxBytes {
			parses(t, text, l, 0, api.OK)
		} else {
			t.Errorf("a text of %d bytes is not asked for", len(text))
		}
	}
	l := slices.Repeat([]api.Asm{line("abcdefghijklmnop", zero, "abcdefgh")}, maxCode)
	if text := asm.Text(l); len(text) != maxBytes {
		t.Errorf("the text has %d bytes", len(text))
	} else {
		parses(t, text, l, 0, api.OK)
		// One byte more is none that Parse takes.
		l[0].To = "abcdefghi"
		parses(t, asm.Text(l), nil, 0, api.ErrLong)
	}
	l = slices.Repeat([]api.Asm{line("", dup, "")}, maxCode+1)
	parses(t, asm.Text(l), nil, maxCode+1, api.ErrLong)
}

// P10.5: what is parsed has a text that is parsed as the same, and that text's text is it again.
func TestParsedHasText(t *testing.T) {
	f, all := from(18), forms()
	are := 0
	for range 60_000 {
		l, _, err := asm.Parse(f.text(all))
		if err != api.OK || len(l) == 0 {
			continue
		}
		are++
		for _, x := range l {
			may(t, x, true)
		}
		text := asm.Text(l)
		again, _, _ := asm.Parse(text)
		parses(t, text, l, 0, api.OK)
		if asm.Text(again) != text || text != textOf(l) {
			t.Fatalf("%v has the text %q", l, text)
		}
	}
	if are < 5000 {
		t.Errorf("%d of 60000 texts are programs", are)
	}
}

// R3, R5: two answers share nothing, and the same text is parsed as the same, however often.
func TestTextsGoByThemselves(t *testing.T) {
	f, all := from(19), forms()
	for range 3000 {
		s := f.text(all)
		before := strings.Clone(s)
		l, n, err := asm.Parse(s)
		told := slices.Clone(l)
		other, _, _ := asm.Parse(s)
		_ = append(l, line("z", none, ""))
		clear(l)
		if s != before || !slices.Equal(other, told) {
			t.Fatalf("%q is changed, or what was told of it", before)
		}
		parses(t, s, told, n, err)
	}
}
