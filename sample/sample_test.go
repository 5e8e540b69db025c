package sample_test

import (
	"bytes"
	"math"
	"slices"
	"testing"

	"tappet/api"
	"tappet/sample"
)

func TestText(t *testing.T) {
	for _, size := range []int{-1, 0, 1, 2, 1000} {
		text := sample.Text(size)
		if len(text) != max(size, 0) || !bytes.Equal(text, sample.Text(size)) {
			t.Errorf("Text(%d) has %d bytes, or is another one each time", size, len(text))
		}
	}
	text := sample.Text(4096)
	for period := 1; period <= 2048; period++ {
		if bytes.Equal(text[period:], text[:len(text)-period]) {
			t.Fatalf("Text begins anew each %d bytes", period)
		}
	}
}

func TestDigest(t *testing.T) {
	const first = "00010203 04050607 08090a0b 0c0d0e0f 10111213 14151617 18191a1b "
	got, ok := sample.Digest(first + "1c1d1e1f")
	for i := range got {
		if !ok || got[i] != byte(i) {
			t.Fatalf("Digest answers %x, %v", got, ok)
		}
	}
	for _, wrong := range []string{"", first, first + "1c1d1e1", first + "1c1d1e1f0", first + "1c1d1e1g", first + "1c1d1e1f 20212223"} {
		if got, ok := sample.Digest(wrong); ok || got != (api.Digest{}) {
			t.Errorf("Digest(%q) answers %x, %v", wrong, got, ok)
		}
	}
}

func TestRow(t *testing.T) {
	row, again, other := sample.From(1), sample.From(1), sample.From(2)
	alike := 0
	for range 1000 {
		x := row.Next()
		if again.Next() != x {
			t.Fatal("a row of the same seed is another one")
		}
		if other.Next() == x {
			alike++
		}
	}
	if alike > 0 {
		t.Errorf("rows of unlike seeds have %d numbers of 1000 in common", alike)
	}
}

func TestRowBelow(t *testing.T) {
	row := sample.From(3)
	for n := 1; n <= 20; n++ {
		var seen [20]int
		for range 200 * n {
			x := row.Below(n)
			if x < 0 || x >= n {
				t.Fatalf("Below(%d) answers %d", n, x)
			}
			seen[x]++
		}
		for x := range n {
			if seen[x] < 100 || seen[x] > 300 {
				t.Errorf("Below(%d) answers %d in %d of %d calls", n, x, seen[x], 200*n)
			}
		}
	}
}

func TestRowBytes(t *testing.T) {
	b := sample.From(4).Bytes(4096)
	if len(b) != 4096 || !bytes.Equal(b, sample.From(4).Bytes(4096)) || len(sample.From(4).Bytes(0)) != 0 {
		t.Errorf("Bytes answers %d bytes, or others each time", len(b))
	}
	var seen [256]bool
	for _, x := range b {
		seen[x] = true
	}
	for x, ok := range seen {
		if !ok {
			t.Errorf("no byte of 4096 is %d", x)
		}
	}
}

func TestEdges(t *testing.T) {
	l := sample.Edges()
	for i := 1; i < len(l); i++ {
		if l[i] <= l[i-1] {
			t.Errorf("Edges has %d behind %d", l[i], l[i-1])
		}
	}
	if l[0] != math.MinInt || l[len(l)-1] != math.MaxInt {
		t.Errorf("Edges goes from %d to %d", l[0], l[len(l)-1])
	}
	l[0] = 1
	if sample.Edges()[0] == 1 {
		t.Error("Edges hands out a list of its own")
	}
}

func TestInSet(t *testing.T) {
	for set := range uint32(512) {
		for _, part := range sample.Edges() {
			want := part >= 0 && part < 8 && set/uint32(math.Pow(2, float64(part)))%2 == 1
			if got := sample.InSet(set, part); got != want {
				t.Fatalf("InSet(%d, %d) tells %v", set, part, got)
			}
		}
	}
}

func TestRowAbout(t *testing.T) {
	row := sample.From(5)
	for bound := range 6 {
		below, at, others := 0, 0, 0
		for range 1200 {
			switch x := row.About(bound); {
			case x == bound:
				at++
			case x >= 0 && x < max(bound, 1):
				below++
			default:
				others++
			}
		}
		if bound > 0 && below < 900 || at < 50 || others < 30 {
			t.Errorf("About(%d) tells %d numbers below it, %d times itself, %d others", bound, below, at, others)
		}
	}
}

func TestKinds(t *testing.T) {
	l := sample.Kinds()
	if len(l) != 27 {
		t.Fatalf("there are %d kinds of instructions", len(l))
	}
	names := map[string]bool{}
	for n, k := range l {
		if int(k.Op) != n+1 || k.Name == "" || names[k.Name] {
			t.Errorf("kind %d is %+v", n, k)
		}
		names[k.Name] = true
	}
	l[0].Op = 9
	l[16].Digit[0] = 9
	if again := sample.Kinds(); again[0].Op != 1 || again[16].Digit[0] != 1 {
		t.Error("Kinds hands out a list of its own")
	}
}

// lets tells whether the kind lets an instruction name A, B and C so.
func lets(k sample.Kind, i api.Instr) bool {
	as := slices.Concat(k.Digit, k.As)
	a := slices.Contains(as, i.A) || len(as) == 0 && i.A == 0
	b := slices.Contains(k.Bs, i.B) || len(k.Bs) == 0 && i.B == 0
	return a && b && (k.C || i.C == 0)
}

func TestRowInstr(t *testing.T) {
	row, l := sample.From(6), sample.Kinds()
	seen := map[api.Instr]bool{}
	for range 200_000 {
		i := row.Instr(l)
		if i.Op < 1 || i.Op > 27 || !lets(l[i.Op-1], i) {
			t.Fatalf("Instr tells %v, that is none", i)
		}
		seen[i] = true
	}
	for _, k := range l {
		count := 0
		for i := range seen {
			if i.Op == k.Op {
				count++
			}
		}
		if want := max(1, len(k.Digit), len(k.As)) * max(1, len(k.Bs)); count < want || k.C && count < 1000 {
			t.Errorf("of %s Instr tells %d", k.Name, count)
		}
	}
	if i := row.Instr(l[26:]); i != (api.Instr{Op: 27}) {
		t.Errorf("of yield alone Instr tells %v", i)
	}
}

func TestRowNearInstr(t *testing.T) {
	row, l := sample.From(7), sample.Kinds()
	are := 0
	for range 10_000 {
		if i := row.NearInstr(l); i.Op >= 1 && i.Op <= 27 && lets(l[i.Op-1], i) {
			are++
		}
	}
	if are < 5000 || are > 6500 {
		t.Errorf("%d of 10000 are instructions", are)
	}
}
