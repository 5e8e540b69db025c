package sample_test

import (
	"bytes"
	"testing"

	"tappet/api"
	"tappet/sample"
)

func TestText(t *testing.T) {
	for _, size := range []int{-1, 0, 1, 2, 1000} {
		text := sample.Text(size)
		if len(text) != max(size, 0) || !bytes.Equal(text, sample.Text(size)) {
			t.Errorf("Text(%d) has %d bytes, or is another one each time", size, len(text))
		}
	}
	text := sample.Text(4096)
	for period := 1; period <= 2048; period++ {
		if bytes.Equal(text[period:], text[:len(text)-period]) {
			t.Fatalf("Text begins anew each %d bytes", period)
		}
	}
}

func TestDigest(t *testing.T) {
	const first = "00010203 04050607 08090a0b 0c0d0e0f 10111213 14151617 18191a1b "
	got, ok := sample.Digest(first + "1c1d1e1f")
	for i := range got {
		if !ok || got[i] != byte(i) {
			t.Fatalf("Digest answers %x, %v", got, ok)
		}
	}
	for _, wrong := range []string{"", first, first + "1c1d1e1", first + "1c1d1e1f0", first + "1c1d1e1g", first + "1c1d1e1f 20212223"} {
		if got, ok := sample.Digest(wrong); ok || got != (api.Digest{}) {
			t.Errorf("Digest(%q) answers %x, %v", wrong, got, ok)
		}
	}
}
