package hmac_test

import (
	"bytes"
	otherhmac "crypto/hmac"
	"crypto/sha256"
	"go/ast"
	"go/parser"
	"go/token"
	"strings"
	"testing"

	"tappet/api"
	"tappet/hmac"
	"tappet/sample"
	"tappet/sha"
)

// byTheRule is P3.1, word by word, with another program's Sum.
func byTheRule(key, text []byte) api.Digest {
	block := bytes.Clone(key)
	if len(key) > 64 {
		sum := sha256.Sum256(key)
		block = sum[:]
	}
	for len(block) < 64 {
		block = append(block, 0)
	}
	var ahead, last []byte
	for _, x := range block {
		ahead, last = append(ahead, x^54), append(last, x^92)
	}
	inner := sha256.Sum256(append(ahead, text...))
	return sha256.Sum256(append(last, inner[:]...))
}

// tagOf reads one as the chapter's table has it.
func tagOf(t *testing.T, digits string) api.Digest {
	t.Helper()
	out, ok := sample.Digest(digits)
	if !ok {
		t.Fatalf("%q is no digest", digits)
	}
	return out
}

// keySizes are lengths of keys about each edge that the chapter names.
var keySizes = []int{0, 1, 4, 20, 31, 32, 33, 62, 63, 64, 65, 66, 127, 128, 129, 131, 1000}

// P3.1: the chapter's example, and others that RFC 4231 gives.
func TestExamples(t *testing.T) {
	rows := []struct{ key, text, want string }{
		{"Jefe", "what do ya want for nothing?", "5bdcc146 bf60754e 6a042426 089575c7 5a003f08 9d273983 9dec58b9 64ec3843"},
		{strings.Repeat("\x0b", 20), "Hi There", "b0344c61 d8db3853 5ca8afce af0bf12b 881dc200 c9833da7 26e9376c 2e32cff7"},
		{strings.Repeat("\xaa", 20), strings.Repeat("\xdd", 50), "773ea91e 36800e46 854db8eb d09181a7 2959098b 3ef8c122 d9635514 ced565fe"},
		{strings.Repeat("\xaa", 131), "Test Using Larger Than Block-Size Key - Hash Key First", "60e43159 1ee0b67f 0d8a26aa cbf5b77f 8e0bc621 3728c514 0546040f 0ee37f54"},
		{strings.Repeat("\xaa", 131), "This is a test using a larger than block-size key and a larger than block-size data. The key needs to be hashed before being used by the HMAC algorithm.", "9b09ffa7 1b942fcb 27635fbc d5b0e944 bfdc6364 4f071393 8a7f5153 5c3a35e2"},
	}
	for _, r := range rows {
		if got := hmac.Of([]byte(r.key), []byte(r.text)); got != tagOf(t, r.want) {
			t.Errorf("Of(%.10q, %.30q) = %x, want %s", r.key, r.text, got, r.want)
		}
	}
}

// P3.1: no key and an empty one, no parts, parts that are nil and empty ones.
func TestOfNone(t *testing.T) {
	want := byTheRule(nil, nil)
	for _, key := range [][]byte{nil, {}, []byte("abc")[:0]} {
		if got := hmac.Of(key); got != want {
			t.Errorf("Of(%#v) = %x, want %x", key, got, want)
		}
		for _, parts := range [][][]byte{nil, {}, {nil}, {{}}, {[]byte("abc")[:0]}, {nil, {}, {}, nil}} {
			if got := hmac.Of(key, parts...); got != want {
				t.Errorf("Of(%#v, %#v) = %x, want %x", key, parts, got, want)
			}
		}
		text := []byte("a text")
		if got := hmac.Of(key, text); got != byTheRule(nil, text) {
			t.Errorf("Of(%#v, a text) = %x", key, got)
		}
	}
	for _, size := range keySizes {
		key := sample.Text(size)
		if want := byTheRule(key, nil); hmac.Of(key) != want || hmac.Of(key, nil, []byte{}) != want {
			t.Errorf("a key of %d bytes, no text", size)
		}
	}
}

// P3.1: keys and texts of all lengths about the edges, by the chapter's rule.
func TestOfByTheRule(t *testing.T) {
	texts := []int{0, 1, 32, 54, 55, 56, 63, 64, 65, 119, 120, 127, 128, 129, 1000}
	for _, size := range keySizes {
		for _, key := range [][]byte{sample.Text(size), make([]byte, size), bytes.Repeat([]byte{255}, size), bytes.Repeat([]byte{54}, size), bytes.Repeat([]byte{92}, size)} {
			for _, n := range texts {
				text := sample.Text(n)
				if got, want := hmac.Of(key, text), byTheRule(key, text); got != want {
					t.Fatalf("a key of %d bytes, a text of %d: %x, want %x", size, n, got, want)
				}
			}
		}
	}
}

// P3.1: all lengths of keys up to some blocks, and texts as long as a container may be, as another program has them.
func TestOfAllLengths(t *testing.T) {
	other := func(key, text []byte) []byte {
		mac := otherhmac.New(sha256.New, key)
		mac.Write(text)
		return mac.Sum(nil)
	}
	for size := range 300 {
		key, text := sample.Text(size), sample.Text(2*size+1)
		if got := hmac.Of(key, text); !bytes.Equal(got[:], other(key, text)) {
			t.Fatalf("a key of %d bytes: %x", size, got)
		}
	}
	long := sample.Text(api.MaxBytes)
	for _, size := range []int{0, 32, 64, 65, api.MaxBytes} {
		if got := hmac.Of(long[:size], long); !bytes.Equal(got[:], other(long[:size], long)) {
			t.Fatalf("a key of %d bytes, a long text: %x", size, got)
		}
	}
}

// P3.1: each bit of a key and of a text tells, and what is the key's is not the text's.
func TestEachBitTells(t *testing.T) {
	for _, size := range []int{1, 63, 64, 65, 100} {
		key, text := sample.Text(size), sample.Text(size+1)
		seen := map[api.Digest]bool{hmac.Of(key, text): true, hmac.Of(text, key): true}
		for _, b := range [][]byte{key, text} {
			for bit := range 8 * len(b) {
				b[bit/8] ^= 1 << (bit % 8)
				seen[hmac.Of(key, text)] = true
				b[bit/8] ^= 1 << (bit % 8)
			}
		}
		if len(seen) != 2+8*len(key)+8*len(text) {
			t.Errorf("a key of %d bytes: %d tags", size, len(seen))
		}
	}
}

// P3.2: the same tags, whatever they are, and tags that differ in one bit, wherever it stands.
func TestSame(t *testing.T) {
	var ones api.Digest
	for i := range ones {
		ones[i] = 255
	}
	for _, a := range []api.Digest{{}, ones, hmac.Of(nil), api.Digest(sample.Text(32))} {
		b := a
		if !hmac.Same(a, b) || !hmac.Same(a, a) {
			t.Errorf("Same of %x and itself is false", a)
		}
		for bit := range 8 * len(a) {
			b[bit/8] ^= 1 << (bit % 8)
			if hmac.Same(a, b) || hmac.Same(b, a) {
				t.Errorf("Same of %x and %x is true", a, b)
			}
			b[bit/8] ^= 1 << (bit % 8)
		}
	}
	if hmac.Same(api.Digest{}, ones) || hmac.Same(ones, api.Digest{}) {
		t.Error("Same of bytes 0 and bytes 255 is true")
	}
}

// P3.2: tags that differ in several bytes, also where the differences would cancel out if they were added or turned by each other.
func TestSameOfSeveral(t *testing.T) {
	a := api.Digest(sample.Text(32))
	for i := range a {
		for k := range i {
			for _, by := range [][2]byte{{1, 1}, {128, 128}, {255, 255}, {1, 255}, {85, 170}, {3, 253}} {
				b, c := a, a
				b[i], b[k] = b[i]^by[0], b[k]^by[1]
				c[i], c[k] = c[i]+by[0], c[k]-by[0]
				if hmac.Same(a, b) || hmac.Same(b, a) || hmac.Same(a, c) || hmac.Same(c, a) {
					t.Fatalf("Same of tags that differ at %d and %d is true", i, k)
				}
			}
		}
	}
	for i := 1; i < len(a); i++ {
		b := a
		for k := range i {
			b[k]++
		}
		c := a
		for k := i; k < len(c); k++ {
			c[k]--
		}
		if hmac.Same(a, b) || hmac.Same(a, c) {
			t.Fatalf("Same of tags that differ up to, or from, byte %d is true", i)
		}
	}
}

// P3.2: the same bytes in another order are not the same.
func TestSameOfAnotherOrder(t *testing.T) {
	var a, b api.Digest
	for i := range a {
		a[i], b[len(b)-1-i] = byte(i), byte(i)
	}
	if hmac.Same(a, b) {
		t.Error("Same of bytes and of those bytes turned round is true")
	}
}

// P3.2: all bytes are looked at, whatever they are. No answer can tell that, so the text of the program is asked: nothing in Same may end ahead of the last byte.
func TestSameLooksAtAll(t *testing.T) {
	file, err := parser.ParseFile(token.NewFileSet(), "hmac.go", nil, 0)
	if err != nil {
		t.Fatal(err)
	}
	var same ast.Node
	for _, d := range file.Decls {
		if f, ok := d.(*ast.FuncDecl); ok && f.Name.Name == "Same" {
			same = f.Body
		}
	}
	if same == nil {
		t.Fatal("hmac.go has no function Same")
	}
	returns := 0
	ast.Inspect(same, func(n ast.Node) bool {
		switch x := n.(type) {
		case *ast.ReturnStmt:
			returns++
		case *ast.IfStmt, *ast.SwitchStmt, *ast.BranchStmt, *ast.CallExpr:
			t.Errorf("Same has a %T: it may end early", n)
		case *ast.BinaryExpr:
			a, isName := x.X.(*ast.Ident)
			if x.Op == token.LAND || x.Op == token.LOR || isName && (a.Name == "a" || a.Name == "b") {
				t.Errorf("Same asks by %v: it may end early", x.Op)
			}
		}
		return true
	})
	if returns != 1 {
		t.Errorf("Same returns at %d places", returns)
	}
}

// P3.3: parted anywhere, into two and three, with nothing between them too.
func TestPartedAnywhere(t *testing.T) {
	for _, size := range []int{4, 64, 65} {
		key := sample.Text(size)
		for _, n := range []int{1, 55, 63, 64, 65, 130} {
			text := sample.Text(n)
			want := byTheRule(key, text)
			for i := 0; i <= n; i++ {
				if hmac.Of(key, text[:i], text[i:]) != want || hmac.Of(key, nil, text[:i], nil, []byte{}, text[i:], nil) != want {
					t.Fatalf("%d bytes parted at %d", n, i)
				}
				for k := i; k <= n; k += 7 {
					if hmac.Of(key, text[:i], text[i:k], text[k:]) != want {
						t.Fatalf("%d bytes parted at %d and %d", n, i, k)
					}
				}
			}
		}
	}
}

// P3.3: many parts, from single bytes on, with and without empty ones between.
func TestManyParts(t *testing.T) {
	key, text := sample.Text(40), sample.Text(700)
	want := byTheRule(key, text)
	for step := 1; step <= 130; step++ {
		var plain, mixed [][]byte
		for at := 0; at < len(text); at += step {
			part := text[at:min(at+step, len(text))]
			plain = append(plain, part)
			mixed = append(mixed, nil, part, []byte{}, nil)
		}
		if hmac.Of(key, plain...) != want || hmac.Of(key, mixed...) != want {
			t.Fatalf("parts of %d bytes", step)
		}
	}
}

// P3.1: parts go one behind the other in the order in which they are handed in.
func TestOrderOfParts(t *testing.T) {
	key, a, b := sample.Text(9), sample.Text(70), sample.Text(71)
	if hmac.Of(key, a, b) != byTheRule(key, append(bytes.Clone(a), b...)) || hmac.Of(key, b, a, b) != byTheRule(key, append(append(bytes.Clone(b), a...), b...)) {
		t.Error("parts are taken in another order")
	}
}

// P3.3: bytes 0 behind a key make no difference up to 64 bytes in all, and one at 65; bytes 0 ahead of it, and other bytes behind it, always do.
func TestNoughtsBehindAKey(t *testing.T) {
	text := sample.Text(50)
	for size := 0; size <= 64; size++ {
		key := sample.Text(size)
		want := hmac.Of(key, text)
		long := bytes.Clone(key)
		for len(long) < 64 {
			long = append(long, 0)
			if hmac.Of(long, text) != want {
				t.Fatalf("a key of %d bytes, with bytes 0 up to %d", size, len(long))
			}
		}
		if hmac.Of(append(long, 0), text) == want {
			t.Fatalf("a key of %d bytes, with bytes 0 up to 65: the same tag", size)
		}
		if hmac.Of(append(bytes.Clone(key), 1), text) == want {
			t.Fatalf("a key of %d bytes, with a byte 1 behind it: the same tag", size)
		}
		if size > 0 && hmac.Of(append([]byte{0}, key...), text) == want {
			t.Fatalf("a key of %d bytes, with a byte 0 ahead of it: the same tag", size)
		}
	}
}

// P3.3: a key of more than 64 bytes is as its Sum; one of at most 64 is not.
func TestLongKeyAsItsSum(t *testing.T) {
	text := sample.Text(50)
	for size := range 200 {
		key := sample.Text(size)
		sum := sha.Sum(key)
		if same := hmac.Of(key, text) == hmac.Of(sum[:], text); same != (size > 64) {
			t.Errorf("a key of %d bytes and its Sum: the same tag: %v", size, same)
		}
	}
}

// R3: what is handed in is not changed, nor what lies behind it, nor the list of parts.
func TestNothingIsChanged(t *testing.T) {
	for _, size := range keySizes {
		whole := sample.Text(size + 300)
		before := bytes.Clone(whole)
		room := [][]byte{whole[size : size+10], nil, whole[size+10 : size+90], {}, whole[:1]}
		parts := room[:4]
		hmac.Of(whole[:size], parts...)
		hmac.Of(whole[:size], whole[:size])
		if !bytes.Equal(whole, before) {
			t.Fatalf("a key of %d bytes: what was handed in is changed", size)
		}
		if len(room[0]) != 10 || room[1] != nil || len(room[2]) != 80 || room[3] == nil || len(room[3]) != 0 || &room[4][0] != &whole[0] {
			t.Fatalf("a key of %d bytes: the list of parts is changed", size)
		}
	}
}

// R5: nothing is kept from call to call, and each answer is its own.
func TestNothingIsKept(t *testing.T) {
	key, text := sample.Text(64), sample.Text(100)
	first := hmac.Of(key, text)
	held := first
	hmac.Of(sample.Text(70), sample.Text(77), nil, sample.Text(3))
	hmac.Of(nil)
	if first != held || hmac.Of(key, text) != held {
		t.Error("the same call answers otherwise")
	}
	key[5] ^= 1
	text[99] ^= 1
	if hmac.Of(key, text) != byTheRule(key, text) {
		t.Error("the tag is not that of the bytes as they are now")
	}
}
