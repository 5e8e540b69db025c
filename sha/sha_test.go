package sha_test

import (
	"bytes"
	"crypto/sha256"
	"math/big"
	"strings"
	"testing"

	"tappet/api"
	"tappet/sample"
	"tappet/sha"
)

// The chapter's rule, word by word, with the primes' numbers worked out from the primes, so that nothing of the program's own is trusted.

// primes answers the first n of them.
func primes(n int) []int64 {
	var list []int64
	for x := int64(2); len(list) < n; x++ {
		if big.NewInt(x).ProbablyPrime(0) {
			list = append(list, x)
		}
	}
	return list
}

// behindPoint answers the first 32 bits behind the point of the root of x of that degree.
func behindPoint(x int64, degree uint) uint32 {
	// The root times 2^32, cut off, is the greatest number whose power is at most x times 2^(32 degree).
	bound := new(big.Int).Lsh(big.NewInt(x), 32*degree)
	root := new(big.Int)
	for bit := 63; bit >= 0; bit-- {
		next := new(big.Int).SetBit(root, bit, 1)
		if new(big.Int).Exp(next, big.NewInt(int64(degree)), nil).Cmp(bound) <= 0 {
			root = next
		}
	}
	return uint32(root.Uint64())
}

func roots(n int, degree uint) []uint32 {
	var list []uint32
	for _, p := range primes(n) {
		list = append(list, behindPoint(p, degree))
	}
	return list
}

func turnedBy(x uint32, n uint) uint32 { return x>>n | x<<(32-n) }

func padded(text []byte) []byte {
	all := append(bytes.Clone(text), 128)
	for len(all)%64 != 56 {
		all = append(all, 0)
	}
	for shift := 56; shift >= 0; shift -= 8 {
		all = append(all, byte(uint64(len(text))*8>>shift))
	}
	return all
}

func slowBlock(n [8]uint32, block []byte, k []uint32) [8]uint32 {
	var w [64]uint32
	for t := range w {
		if t < 16 {
			w[t] = uint32(block[4*t])<<24 + uint32(block[4*t+1])<<16 + uint32(block[4*t+2])<<8 + uint32(block[4*t+3])
			continue
		}
		x, y := w[t-15], w[t-2]
		s0 := turnedBy(x, 7) ^ turnedBy(x, 18) ^ x>>3
		s1 := turnedBy(y, 17) ^ turnedBy(y, 19) ^ y>>10
		w[t] = s1 + w[t-7] + s0 + w[t-16]
	}
	m := n
	for t := range w {
		s0 := turnedBy(m[0], 2) ^ turnedBy(m[0], 13) ^ turnedBy(m[0], 22)
		s1 := turnedBy(m[4], 6) ^ turnedBy(m[4], 11) ^ turnedBy(m[4], 25)
		u := m[7] + s1 + (m[4]&m[5] ^ (^m[4])&m[6]) + k[t] + w[t]
		v := s0 + (m[0]&m[1] ^ m[0]&m[2] ^ m[1]&m[2])
		m = [8]uint32{u + v, m[0], m[1], m[2], m[3] + u, m[4], m[5], m[6]}
	}
	for i := range n {
		n[i] += m[i]
	}
	return n
}

func slowSum(text []byte) (out api.Digest) {
	n, k := [8]uint32(roots(8, 2)), roots(64, 3)
	for all := padded(text); len(all) > 0; all = all[64:] {
		n = slowBlock(n, all[:64], k)
	}
	for i := range out {
		out[i] = byte(n[i/4] >> (24 - i%4*8))
	}
	return out
}

// digestOf reads one as the chapter's table has it.
func digestOf(t *testing.T, digits string) api.Digest {
	t.Helper()
	out, ok := sample.Digest(digits)
	if !ok {
		t.Fatalf("%q is no digest", digits)
	}
	return out
}

const ofNone = "e3b0c442 98fc1c14 9afbf4c8 996fb924 27ae41e4 649b934c a495991b 7852b855"

// P2.1: the chapter's examples, and those that the standard gives for two blocks and for many.
func TestExamples(t *testing.T) {
	rows := []struct{ text, want string }{
		{"", ofNone},
		{"abc", "ba7816bf 8f01cfea 414140de 5dae2223 b00361a3 96177a9c b410ff61 f20015ad"},
		{"abcdbcdecdefdefgefghfghighijhijkijkljklmklmnlmnomnopnopq", "248d6a61 d20638b8 e5c02693 0c3e6039 a33ce459 64ff2167 f6ecedd4 19db06c1"},
		{"abcdefghbcdefghicdefghijdefghijkefghijklfghijklmghijklmnhijklmnoijklmnopjklmnopqklmnopqrlmnopqrsmnopqrstnopqrstu", "cf5b16a7 78af8380 036ce59e 7b049237 0b249b11 e8f07a51 afac4503 7afee9d1"},
		{strings.Repeat("a", 1000000), "cdc76e5c 9914fb92 81a1c7e2 84d73e67 f1809a48 a497200e 046d39cc c7112cd0"},
	}
	for _, r := range rows {
		if got := sha.Sum([]byte(r.text)); got != digestOf(t, r.want) {
			t.Errorf("Sum of %d bytes, %.20q: %x, want %s", len(r.text), r.text, got, r.want)
		}
	}
}

// P2.1: no bytes at all, however they are handed in.
func TestSumOfNone(t *testing.T) {
	want := digestOf(t, ofNone)
	rows := []struct {
		name  string
		parts [][]byte
	}{
		{"no parts", nil},
		{"an empty list of parts", [][]byte{}},
		{"a part that is nil", [][]byte{nil}},
		{"a part that is empty", [][]byte{{}}},
		{"an empty part with bytes behind it", [][]byte{[]byte("abc")[:0]}},
		{"many of them", [][]byte{nil, {}, nil, {}, {}, nil}},
	}
	for _, r := range rows {
		if got := sha.Sum(r.parts...); got != want {
			t.Errorf("%s: %x", r.name, got)
		}
	}
	if got := sha.Sum(); got != want {
		t.Errorf("Sum() = %x", got)
	}
}

// P2.1: about each edge of a block and of its padding, by the chapter's rule.
func TestSumByTheRule(t *testing.T) {
	sizes := []int{0, 1, 2, 3, 4, 54, 55, 56, 57, 62, 63, 64, 65, 118, 119, 120, 121, 127, 128, 129, 183, 184, 191, 192, 193, 1000, 4096}
	for _, size := range sizes {
		for _, text := range [][]byte{sample.Text(size), make([]byte, size), bytes.Repeat([]byte{255}, size), bytes.Repeat([]byte{128}, size)} {
			if got, want := sha.Sum(text), slowSum(text); got != want {
				t.Fatalf("%d bytes: %x, want %x", size, got, want)
			}
		}
	}
}

// P2.1: all lengths up to some blocks, and texts as long as a container may be, as another program has them.
func TestSumOfAllLengths(t *testing.T) {
	for size := range 700 {
		text := sample.Text(size)
		if got := sha.Sum(text); got != sha256.Sum256(text) {
			t.Fatalf("%d bytes: %x", size, got)
		}
	}
	for _, size := range []int{1<<16 - 9, 1<<16 - 8, 1 << 16, api.MaxBytes - 1, api.MaxBytes, api.MaxBytes + 1} {
		text := sample.Text(size)
		if got := sha.Sum(text); got != sha256.Sum256(text) {
			t.Fatalf("%d bytes: %x", size, got)
		}
	}
}

// P2.1: a text so long that eight times its bytes do not go into four bytes.
func TestSumOfALongText(t *testing.T) {
	piece := sample.Text(1 << 20)
	parts := make([][]byte, 1<<9)
	other := sha256.New()
	for i := range parts {
		parts[i] = piece
		other.Write(piece)
	}
	if got := sha.Sum(parts...); !bytes.Equal(got[:], other.Sum(nil)) {
		t.Errorf("2^29 bytes: %x, want %x", got, other.Sum(nil))
	}
}

// P2.1: each bit of a text tells, wherever it stands.
func TestEachBitTells(t *testing.T) {
	text := sample.Text(130)
	seen := map[api.Digest]int{sha.Sum(text): -1}
	for bit := range 8 * len(text) {
		text[bit/8] ^= 1 << (bit % 8)
		sum := sha.Sum(text)
		if at, twice := seen[sum]; twice {
			t.Fatalf("turned at bit %d and at %d: the same sum", bit, at)
		}
		seen[sum] = bit
		text[bit/8] ^= 1 << (bit % 8)
	}
}

// P2.1: parts go one behind the other in the order in which they are handed in.
func TestOrderOfParts(t *testing.T) {
	a, b := sample.Text(70), sample.Text(71)
	if sha.Sum(a, b) != slowSum(append(bytes.Clone(a), b...)) || sha.Sum(b, a) != slowSum(append(bytes.Clone(b), a...)) {
		t.Error("two parts are taken in another order")
	}
	if sha.Sum(a, b) == sha.Sum(b, a) {
		t.Error("the order of parts makes no difference")
	}
}

// P2.2: parted anywhere, into two and three, with nothing between them too.
func TestPartedAnywhere(t *testing.T) {
	for _, size := range []int{1, 55, 56, 63, 64, 65, 119, 120, 128, 200} {
		text := sample.Text(size)
		want := slowSum(text)
		for i := 0; i <= size; i++ {
			if sha.Sum(text[:i], text[i:]) != want || sha.Sum(nil, text[:i], nil, []byte{}, text[i:], nil) != want {
				t.Fatalf("%d bytes parted at %d", size, i)
			}
			for k := i; k <= size; k++ {
				if sha.Sum(text[:i], text[i:k], text[k:]) != want {
					t.Fatalf("%d bytes parted at %d and %d", size, i, k)
				}
			}
		}
	}
}

// P2.2: parts of one length each, from single bytes on, with and without empty ones between.
func TestManyParts(t *testing.T) {
	text := sample.Text(1000)
	want := slowSum(text)
	for step := 1; step <= 200; step++ {
		var plain, mixed [][]byte
		for at := 0; at < len(text); at += step {
			part := text[at:min(at+step, len(text))]
			plain = append(plain, part)
			mixed = append(mixed, nil, part, []byte{}, nil)
		}
		if sha.Sum(plain...) != want {
			t.Fatalf("parts of %d bytes", step)
		}
		if sha.Sum(mixed...) != want {
			t.Fatalf("parts of %d bytes with empty ones between", step)
		}
	}
}

// P2.2: parts of all kinds of lengths, a long one behind a short one and the other way round.
func TestUnevenParts(t *testing.T) {
	text := sample.Text(3000)
	want := slowSum(text)
	for seed := range 200 {
		var parts [][]byte
		rest := text
		for _, size := range sample.Text(seed) {
			n := min(int(size), len(rest))
			parts, rest = append(parts, rest[:n]), rest[n:]
		}
		if sha.Sum(append(parts, rest)...) != want {
			t.Fatalf("row %d of parts", seed)
		}
	}
}

// P2.2: parts that share their bytes are texts of their own.
func TestPartsThatShareBytes(t *testing.T) {
	b := sample.Text(100)
	want := slowSum(append(append(bytes.Clone(b), b[10:90]...), b...))
	if sha.Sum(b, b[10:90], b) != want {
		t.Error("a part that is handed in twice is not taken in twice")
	}
}

// R3: what is handed in is not changed, nor what lies behind it, nor the list of parts.
func TestNothingIsChanged(t *testing.T) {
	for _, size := range []int{0, 1, 55, 56, 63, 64, 65, 128, 200} {
		whole := sample.Text(size + 200)
		before := bytes.Clone(whole)
		parts := [][]byte{whole[:size], nil, whole[size : size+10], {}}
		sha.Sum(parts...)
		sha.Sum(whole[:size])
		if !bytes.Equal(whole, before) {
			t.Fatalf("%d bytes: what was handed in is changed", size)
		}
		if len(parts) != 4 || len(parts[0]) != size || parts[1] != nil || len(parts[2]) != 10 || parts[3] == nil {
			t.Fatalf("%d bytes: the list of parts is changed", size)
		}
	}
}

// R5: nothing is kept from call to call, and each answer is its own.
func TestNothingIsKept(t *testing.T) {
	text := sample.Text(100)
	first := sha.Sum(text)
	held := first
	sha.Sum(sample.Text(77), nil, sample.Text(3))
	sha.Sum()
	if first != held || sha.Sum(text) != held {
		t.Error("the same call answers otherwise")
	}
	text[5] ^= 1
	if sha.Sum(text) != slowSum(text) {
		t.Error("the sum is not that of the bytes as they are now")
	}
}
