package sample

import (
	"strconv"
	"strings"

	"tappet/api"
)

// Shown is what Short has a text of.
type Shown interface {
	api.Instr | int | uint32 | bool
}

// Short answers a list as text, or its beginning and its end.
func Short[T Shown](l []T) string {
	if len(l) > 24 {
		return strconv.Itoa(len(l)) + " " + whole(l[:12]) + ".." + whole(l[len(l)-12:])
	}
	return whole(l)
}

// whole answers all of a list as text.
func whole[T Shown](l []T) string {
	words := make([]string, len(l))
	for n, x := range l {
		words[n] = word(x)
	}
	return "[" + strings.Join(words, " ") + "]"
}

// word answers the text of what Short has one of; an instruction's are its numbers, as it may be none that has a name.
func word(x any) string {
	switch x := x.(type) {
	case api.Instr:
		return "{" + strings.Join([]string{word(int(x.Op)), word(int(x.A)), word(int(x.B)), word(x.C)}, " ") + "}"
	case int:
		return strconv.Itoa(x)
	case uint32:
		return strconv.FormatUint(uint64(x), 10)
	case bool:
		return strconv.FormatBool(x)
	}
	return "?"
}
