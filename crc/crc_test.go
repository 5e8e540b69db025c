package crc_test

import (
	"bytes"
	"testing"

	"tappet/crc"
	"tappet/sample"
)

const all = uint32(1<<32 - 1)

// bitIn is the chapter's rule for one bit, word by word, so that nothing of the program's own table is trusted.
func bitIn(rest, bit uint32) uint32 {
	unlike := bit != rest%2
	rest /= 2
	if unlike {
		rest ^= 3988292384
	}
	return rest
}

// remainder goes on from rest with the bits of b, from each byte's lowest one on.
func remainder(rest uint32, b []byte) uint32 {
	for _, x := range b {
		for n := range 8 {
			rest = bitIn(rest, uint32(x)>>n&1)
		}
	}
	return rest
}

func slowSum(b []byte) uint32 { return all - remainder(all, b) }

// bytesOf answers four bytes whose sum is that one: the bits' way is gone backwards.
func bytesOf(sum uint32) []byte {
	rest := all - sum
	for range 32 {
		// What is turned in sets the highest bit, and a halved number has none there.
		if rest>>31 == 1 {
			rest = (rest^3988292384)*2 + 1
		} else {
			rest *= 2
		}
	}
	rest ^= all
	return []byte{byte(rest), byte(rest >> 8), byte(rest >> 16), byte(rest >> 24)}
}

// turned answers b with the bits of pattern turned, from bit at on (bit 0 is the first byte's lowest one).
func turned(b []byte, at int, pattern uint64) []byte {
	out := bytes.Clone(b)
	for n := range 64 {
		if pattern>>n&1 == 1 {
			out[(at+n)/8] ^= 1 << ((at + n) % 8)
		}
	}
	return out
}

// P1.1: the chapter's examples, and sums that are well known elsewhere.
func TestSumExamples(t *testing.T) {
	rows := []struct {
		text string
		want uint32
	}{
		{"", 0},
		{"123456789", 3421780262},
		{"a", 0xe8b7be43},
		{"abc", 0x352441c2},
		{"The quick brown fox jumps over the lazy dog", 0x414fa339},
		{"\x00\x00\x00\x00", 0x2144df1c},
		{"\xff\xff\xff\xff", 0xffffffff},
	}
	for _, r := range rows {
		if got := crc.Sum([]byte(r.text)); got != r.want {
			t.Errorf("Sum(%q) = %08x, want %08x", r.text, got, r.want)
		}
	}
}

// P1.1: of no bytes 0, nil or an empty list.
func TestSumOfNone(t *testing.T) {
	if got := crc.Sum(nil); got != 0 {
		t.Errorf("Sum(nil) = %d", got)
	}
	if got := crc.Sum([]byte{}); got != 0 {
		t.Errorf("Sum of an empty list = %d", got)
	}
	if got := crc.Sum([]byte{1, 2, 3}[:0]); got != 0 {
		t.Errorf("Sum of an empty list with bytes behind it = %d", got)
	}
}

// P1.1: each byte alone, and each one behind another, as the rule says it bit by bit.
func TestSumOfOneAndTwoBytes(t *testing.T) {
	for x := range 256 {
		one := []byte{byte(x)}
		if got, want := crc.Sum(one), slowSum(one); got != want {
			t.Fatalf("Sum(%v) = %08x, want %08x", one, got, want)
		}
		for y := range 256 {
			two := []byte{byte(x), byte(y)}
			if got, want := crc.Sum(two), slowSum(two); got != want {
				t.Fatalf("Sum(%v) = %08x, want %08x", two, got, want)
			}
		}
	}
}

// P1.1: rows of all lengths up to some hundreds, and a long one, as the rule says it bit by bit.
func TestSumByTheRule(t *testing.T) {
	row := sample.From(1)
	for size := range 400 {
		b := row.Bytes(size)
		if got, want := crc.Sum(b), slowSum(b); got != want {
			t.Fatalf("%d bytes: %08x, want %08x", size, got, want)
		}
	}
	for _, b := range [][]byte{row.Bytes(1 << 19), make([]byte, 1<<19+1), bytes.Repeat([]byte{255}, 1<<19-1)} {
		if got, want := crc.Sum(b), slowSum(b); got != want {
			t.Fatalf("%d bytes: %08x, want %08x", len(b), got, want)
		}
	}
}

// P1.2: the chapter's example.
func TestMoreExample(t *testing.T) {
	if got := crc.More(crc.Sum([]byte("1234")), []byte("56789")); got != 3421780262 {
		t.Errorf("More(Sum of 1234, 56789) = %d", got)
	}
}

// P1.2: bytes parted anywhere, also with nothing in a part.
func TestMoreOfParts(t *testing.T) {
	b := sample.From(2).Bytes(70)
	want := slowSum(b)
	for i := 0; i <= len(b); i++ {
		if got := crc.More(crc.Sum(b[:i]), b[i:]); got != want {
			t.Fatalf("parted at %d: %08x, want %08x", i, got, want)
		}
		for k := i; k <= len(b); k++ {
			if got := crc.More(crc.More(crc.Sum(b[:i]), b[i:k]), b[k:]); got != want {
				t.Fatalf("parted at %d and %d: %08x, want %08x", i, k, got, want)
			}
		}
	}
	one := uint32(0)
	for i := range b {
		one = crc.More(one, b[i:i+1])
	}
	if one != want {
		t.Errorf("byte by byte: %08x, want %08x", one, want)
	}
}

// sums are some of all kinds: the edges, each bit alone and left out, and others.
func sums() []uint32 {
	list := []uint32{0, 1, all, all - 1, 1 << 31, 1<<31 - 1, 3988292384, 3421780262}
	for n := range 32 {
		list = append(list, 1<<n, all-1<<n)
	}
	row := sample.From(3)
	for range 200 {
		list = append(list, uint32(row.Next()))
	}
	return list
}

// P1.2: from any sum, which is that of four bytes at least.
func TestMoreFromAnySum(t *testing.T) {
	row := sample.From(4)
	for i, sum := range sums() {
		ahead := bytesOf(sum)
		if slowSum(ahead) != sum {
			t.Fatalf("the test's own bytes of %08x have the sum %08x", sum, slowSum(ahead))
		}
		for _, b := range [][]byte{nil, {}, {0}, {255}, row.Bytes(1 + i%40)} {
			want := slowSum(append(bytes.Clone(ahead), b...))
			if got := crc.More(sum, b); got != want {
				t.Fatalf("More(%08x, %v) = %08x, want %08x", sum, b, got, want)
			}
		}
	}
}

// P1.2: whatever bytes had that sum, what comes behind them makes the same one.
func TestMoreWhateverBytesTheyWere(t *testing.T) {
	row := sample.From(5)
	for size := range 40 {
		first, b := row.Bytes(size), row.Bytes(17)
		other := bytesOf(crc.Sum(first))
		if crc.Sum(append(first, b...)) != crc.Sum(append(other, b...)) {
			t.Fatalf("%d bytes: two rows of one sum go on otherwise", size)
		}
	}
}

// P1.2: nothing behind leaves any sum as it is.
func TestMoreOfNone(t *testing.T) {
	for _, sum := range sums() {
		if crc.More(sum, nil) != sum || crc.More(sum, []byte{}) != sum {
			t.Fatalf("More(%08x, none) = %08x, %08x", sum, crc.More(sum, nil), crc.More(sum, []byte{}))
		}
	}
}

// bursts are patterns whose lowest bit is set and that span at most 32 bits: each single bit, each pair, each one of 9 bits, all bits, and others that span just 32.
func bursts() []uint64 {
	list := []uint64{1, 1<<32 - 1, 3988292384 | 1}
	for n := 1; n < 32; n++ {
		list = append(list, 1<<n|1, 1<<(n+1)-1)
	}
	for low := uint64(1); low < 512; low += 2 {
		list = append(list, low)
	}
	row := sample.From(6)
	for range 300 {
		list = append(list, row.Next()&(1<<32-1)|1, row.Next()&(1<<32-1)|1<<31|1)
	}
	return list
}

// P1.3: rows that are unlike within 32 bits one behind the other, wherever, also across bytes.
func TestBursts(t *testing.T) {
	row := sample.From(7)
	for size := 1; size <= 12; size++ {
		b := row.Bytes(size)
		sum := crc.Sum(b)
		for _, pattern := range bursts() {
			for at := range size * 8 {
				if at+32 > size*8 && pattern>>(size*8-at) != 0 {
					continue
				}
				if other := turned(b, at, pattern); crc.Sum(other) == sum {
					t.Fatalf("%v and %v have the sum %08x", b, other, sum)
				}
			}
		}
	}
}

// P1.3: bursts in a long row, at its beginning, its end, and about its middle.
func TestBurstsInALongRow(t *testing.T) {
	b := sample.From(8).Bytes(1000)
	sum := crc.Sum(b)
	for _, pattern := range bursts()[:100] {
		for _, at := range []int{0, 1, 7, 3999, 4000, 7961, 7968} {
			if crc.Sum(turned(b, at, pattern)) == sum {
				t.Fatalf("turned by %x from bit %d on: the same sum", pattern, at)
			}
		}
	}
}

// P1.3's edge: over 33 bits two rows may have one sum, and the rule says which.
func TestThirtyThreeBitsMayBeAlike(t *testing.T) {
	b := sample.From(9).Bytes(9)
	for at := range 9*8 - 33 + 1 {
		if crc.Sum(turned(b, at, 3988292384<<1|1)) != crc.Sum(b) {
			t.Fatalf("from bit %d on: unlike sums", at)
		}
	}
}

// P1.4: three rows turned by one another; also alike ones, and of no bytes.
func TestThreeRows(t *testing.T) {
	row := sample.From(10)
	for size := range 100 {
		a, b, c := row.Bytes(size), row.Bytes(size), row.Bytes(size)
		for _, l := range [][3][]byte{{a, b, c}, {a, a, c}, {a, a, a}, {a, make([]byte, size), bytes.Repeat([]byte{255}, size)}} {
			mixed := make([]byte, size)
			for i := range mixed {
				mixed[i] = l[0][i] ^ l[1][i] ^ l[2][i]
			}
			want := crc.Sum(l[0]) ^ crc.Sum(l[1]) ^ crc.Sum(l[2])
			if got := crc.Sum(mixed); got != want {
				t.Fatalf("%d bytes: %08x, want %08x", size, got, want)
			}
		}
	}
}

// R3 and R5: what is handed in is not changed, nor what lies behind it, and each call answers the same.
func TestNothingIsChangedOrKept(t *testing.T) {
	whole := sample.From(11).Bytes(64)
	before := bytes.Clone(whole)
	b := whole[8:40]
	sum, more := crc.Sum(b), crc.More(12345, b)
	crc.Sum([]byte("between"))
	crc.More(all, []byte("between"))
	if !bytes.Equal(whole, before) {
		t.Error("what was handed in is changed")
	}
	if crc.Sum(b) != sum || crc.More(12345, b) != more {
		t.Error("the same call answers otherwise")
	}
	b[5] ^= 1
	if crc.Sum(b) != slowSum(b) {
		t.Error("the sum is not that of the bytes as they are now")
	}
}
