// Package sample makes what the tests of several packages are fed. No layer calls it.
package sample

import (
	"math"
	"strconv"
	"strings"

	"tappet/api"
)

// Text answers a text of that many bytes, alike in each run, and with no short period.
func Text(size int) []byte {
	b := make([]byte, max(size, 0))
	state := uint32(size)*2654435761 + 1
	for i := range b {
		state = state*1664525 + 1013904223
		b[i] = byte(state >> 24)
	}
	return b
}

// Digest reads a digest as the chapters' tables have it: eight numbers to the base 16, spaces between them. Of anything else it answers false.
func Digest(digits string) (api.Digest, bool) {
	var out api.Digest
	words := strings.Fields(digits)
	if len(words) != len(out)/4 {
		return api.Digest{}, false
	}
	for i, word := range words {
		x, err := strconv.ParseUint(word, 16, 32)
		if err != nil || len(word) != 8 {
			return api.Digest{}, false
		}
		for k := range 4 {
			out[4*i+k] = byte(x >> (24 - 8*k))
		}
	}
	return out, true
}

// Edges answers numbers about those where something begins or ends, below 0, and huge.
func Edges() []int {
	return []int{math.MinInt, math.MinInt32, -256, -64, -2, -1, 0, 1, 2, 3, 4, 5, 6, 7, 8, 9, 15, 16, 17, 31, 32, 33, 63, 64, 65, 255, 256, 257, math.MaxInt32, 1 << 32, 1<<32 + 1, math.MaxInt}
}

// InSet tells whether the partition is in a set of them, by looking for it among all that there may be.
func InSet(set uint32, part int) bool {
	for n := range api.MaxParts {
		if part == n && set&(1<<n) != 0 {
			return true
		}
	}
	return false
}

// Row is numbers without a plain rule, alike in each run.
type Row struct {
	state uint64
	kinds []Kind // filled when they are first asked
}

// From answers a row; unlike seeds have unlike ones.
func From(seed uint64) *Row { return &Row{state: seed} }

// Next answers the row's next number.
func (r *Row) Next() uint64 {
	r.state = r.state*6364136223846793005 + 1442695040888963407
	return r.state>>32 ^ r.state<<31
}

// Below answers the next number from 0 to n - 1; n is 1 at least.
func (r *Row) Below(n int) int { return int(r.Next() >> 1 % uint64(n)) }

// Bytes answers the next bytes, as many as told.
func (r *Row) Bytes(count int) []byte {
	b := make([]byte, count)
	for i := range b {
		b[i] = byte(r.Next() >> 24)
	}
	return b
}

// About answers most often the next number from 0 to bound - 1, else the bound or one of Edges; where the bound is 0 or less, 0 goes for its numbers.
func (r *Row) About(bound int) int {
	switch r.Below(12) {
	case 0:
		return Edges()[r.Below(len(Edges()))]
	case 1:
		return bound
	}
	return r.Below(max(bound, 1))
}
