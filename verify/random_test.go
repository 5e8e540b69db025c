package verify_test

import (
	"slices"

	"tappet/api"
	"tappet/sample"
)

// kinds are all instructions, naming such as name a port, an input or an output.
var kinds = sample.Kinds()
var naming = kinds[20:26]

// readersOf answers readers: most often many of those that there may be.
func readersOf(row *sample.Row) uint32 {
	switch row.Below(8) {
	case 0:
		return uint32(row.Next())
	case 1:
		return uint32(row.Next()) % 256 & uint32(row.Next())
	}
	return uint32(row.Next()|row.Next()) % 256
}

// configOf answers a configuration, of which nobody asked whether it may be, and a partition that most often is there.
func configOf(row *sample.Row) (api.Config, int) {
	c := api.Config{
		Parts: make([]api.PartDef, 1+row.Below(8)),
		Ports: make([]api.PortDef, row.Below(18)),
		Field: api.FieldDef{Ins: row.About(17), Safe: make([]uint32, row.Below(18)), Readers: readersOf(row)},
	}
	part := row.About(len(c.Parts))
	writer := func() int {
		if row.Below(2) == 0 {
			return part
		}
		return row.About(8)
	}
	for n := range c.Parts {
		c.Parts[n].Stack = row.About(65)
	}
	for n := range c.Ports {
		c.Ports[n] = api.PortDef{Words: row.About(17), Writer: writer(), Readers: readersOf(row)}
	}
	c.Field.Writer = writer()
	return c, part
}

// likeOf answers an instruction that most often names a port, an input or an output; half of the times it is one that there is.
func likeOf(row *sample.Row) api.Instr {
	switch row.Below(8) {
	case 0:
		return row.Instr(kinds)
	case 1, 2, 3:
		i := row.Instr(naming)
		i.A, i.B, i.C = uint8(row.Below(20)), uint16(row.Below(20)), uint32(row.Below(2))
		if row.Below(4) == 0 {
			i.A, i.B, i.C = uint8(row.Next()), uint16(row.Next()), uint32(row.Next())
		}
		return i
	}
	return row.Instr(naming)
}

// piece answers an instruction with those around it that make it leave as many words as it found; it is most often the partition's to do.
func piece(row *sample.Row, part int, c api.Config) []api.Instr {
	i := row.Instr(naming)
	for range 20 {
		if row.Below(300) == 0 || ownOf(i, part, c) == 0 {
			break
		}
		i = row.Instr(naming)
	}
	push, drop := api.Instr{Op: api.OpPush, C: uint32(row.Next())}, api.Instr{Op: api.OpDrop}
	switch i.Op {
	case api.OpOut, api.OpPut:
		return []api.Instr{push, i}
	case api.OpSend:
		return []api.Instr{i}
	}
	return []api.Instr{i, drop}
}

// programOf answers a program that is made of pieces, with ways from the beginning of one to that of another; of back times in 8 these go back.
func programOf(row *sample.Row, part int, c api.Config, back int) []api.Instr {
	l := slices.Repeat([]api.Instr{{Op: api.OpDup}}, row.Below(4))
	l = append([]api.Instr{{Op: api.OpPush}}, l...)
	// Where pieces begin, and, with what they are told, such as go on to another one.
	var begins, jumps []int
	for range 1 + row.Below(12) {
		begins = append(begins, len(l))
		switch row.Below(8) {
		case 0:
			l = append(l, api.Instr{Op: api.OpYield})
		case 1, 2:
			l = append(l, api.Instr{Op: api.OpPush}, api.Instr{Op: api.OpZero})
			jumps = append(jumps, len(l)-1)
		case 3:
			l = append(l, api.Instr{Op: api.OpJump})
			jumps = append(jumps, len(l)-1)
		default:
			l = append(l, piece(row, part, c)...)
		}
	}
	begins = append(begins, len(l))
	l = append(l, api.Instr{Op: api.OpYield})
	for _, n := range jumps {
		at, _ := slices.BinarySearch(begins, n+1)
		if row.Below(8) < back {
			at = 0
		}
		l[n].C = uint32(begins[at+row.Below(len(begins)-at)])
	}
	return l
}

// wider answers another configuration in which the partition may read more, and has no lesser stack.
func wider(row *sample.Row, part int, c api.Config) api.Config {
	c.Parts, c.Ports = slices.Clone(c.Parts), slices.Clone(c.Ports)
	more := func() uint32 {
		if row.Below(2) == 0 {
			return uint32(row.Next())
		}
		return 1 << part
	}
	for n := range c.Ports {
		c.Ports[n].Readers |= more()
	}
	c.Field.Readers |= more()
	c.Parts[part].Stack += row.Below(65 - c.Parts[part].Stack)
	return c
}
