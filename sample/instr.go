package sample

import (
	"slices"
	"strings"

	"tappet/api"
)

// Kind is a row of chapter 9's table, Op by Op; what may be named is written out.
type Kind struct {
	Op           uint8
	Name         string
	Takes, Gives int
	Digit        []uint8  // A, right behind the name
	As           []uint8  // A, behind a blank
	Bs           []uint16 // B
	C            bool     // whatever C
}

// Kinds answers chapter 9's table, by its numbers.
func Kinds() []Kind {
	sizes := []uint8{1, 2, 4}
	as := []uint8{0, 1, 2, 3, 4, 5, 6, 7, 8, 9, 10, 11, 12, 13, 14, 15}
	bs := []uint16{0, 1, 2, 3, 4, 5, 6, 7, 8, 9, 10, 11, 12, 13, 14, 15}
	l := []Kind{
		{Op: 1, Name: "push", Takes: 0, Gives: 1, C: true},
		{Op: 2, Name: "dup", Takes: 1, Gives: 2},
		{Op: 3, Name: "drop", Takes: 1, Gives: 0},
		{Op: 4, Name: "swap", Takes: 2, Gives: 2},
	}
	for n, name := range strings.Fields("add sub mul div mod and or xor shl shr eq less") {
		l = append(l, Kind{Op: uint8(5 + n), Name: name, Takes: 2, Gives: 1})
	}
	return append(l,
		Kind{Op: 17, Name: "load", Takes: 1, Gives: 1, Digit: sizes, C: true},
		Kind{Op: 18, Name: "store", Takes: 2, Gives: 0, Digit: sizes, C: true},
		Kind{Op: 19, Name: "jump", Takes: 0, Gives: 0, C: true},
		Kind{Op: 20, Name: "zero", Takes: 1, Gives: 0, C: true},
		Kind{Op: 21, Name: "in", Takes: 0, Gives: 1, As: as},
		Kind{Op: 22, Name: "out", Takes: 1, Gives: 0, As: as},
		Kind{Op: 23, Name: "read", Takes: 0, Gives: 1, As: as, Bs: bs},
		Kind{Op: 24, Name: "age", Takes: 0, Gives: 1, As: as},
		Kind{Op: 25, Name: "put", Takes: 1, Gives: 0, As: as, Bs: bs},
		Kind{Op: 26, Name: "send", Takes: 0, Gives: 0, As: as},
		Kind{Op: 27, Name: "yield", Takes: 0, Gives: 0},
	)
}

// Instr answers the next instruction of one of these kinds, with whatever C where one is named.
func (r *Row) Instr(l []Kind) api.Instr {
	k := l[r.Below(len(l))]
	i := api.Instr{Op: k.Op}
	if as := slices.Concat(k.Digit, k.As); len(as) > 0 {
		i.A = as[r.Below(len(as))]
	}
	if len(k.Bs) > 0 {
		i.B = k.Bs[r.Below(len(k.Bs))]
	}
	if k.C {
		i.C = uint32(r.Next()) >> r.Below(32)
	}
	return i
}

// NearInstr is as Instr, but of two one has one thing that is whatever it may be, so that most of these are none.
func (r *Row) NearInstr(l []Kind) api.Instr {
	i := r.Instr(l)
	switch r.Below(8) {
	case 0:
		i.Op = uint8(r.Next())
	case 1:
		i.A = uint8(r.Next())
	case 2:
		i.B = uint16(r.Next()) >> r.Below(16)
	case 3:
		i.C = uint32(r.Next()) >> r.Below(32)
	}
	return i
}
