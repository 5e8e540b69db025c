package verify_test

import (
	"tappet/api"
	"tappet/cost"
	"tappet/height"
	"tappet/sample"
)

// errOf answers by the words what Own tells of such an instruction that is not the partition's to do.
func errOf(op uint8) api.Errno {
	if op >= 23 && op <= 26 {
		return 140
	}
	if op == 21 || op == 22 {
		return 141
	}
	return 0
}

// ownOf is Own by the words.
func ownOf(i api.Instr, part int, c api.Config) api.Errno {
	err := errOf(i.Op)
	if err == 140 && isOwnPort(i, part, c.Ports) || err == 141 && isOwnField(i, part, c.Field) {
		return 0
	}
	return err
}

// isOwnPort tells by the words whether an instruction with a port is the partition's to do.
func isOwnPort(i api.Instr, part int, ports []api.PortDef) bool {
	for n, p := range ports {
		if n != int(i.A) {
			continue
		}
		isWriter := p.Writer == part
		isEither := isWriter || isIn(p.Readers, part)
		hasWord := p.Words > int(i.B)
		return i.Op == 23 && isEither && hasWord || i.Op == 24 && isEither || i.Op == 25 && isWriter && hasWord || i.Op == 26 && isWriter
	}
	return false
}

// isOwnField tells by the words whether an instruction with the field is the partition's to do.
func isOwnField(i api.Instr, part int, f api.FieldDef) bool {
	if i.Op == 21 {
		return isIn(f.Readers, part) && f.Ins > int(i.A)
	}
	return f.Writer == part && len(f.Safe) > int(i.A)
}

// isIn tells whether a partition is one of the readers, whose bits tell those from 0 to 31.
func isIn(readers uint32, part int) bool {
	for n := range 32 {
		if part == n {
			return readers%2 == 1
		}
		readers /= 2
	}
	return false
}

// checkOf is Check by the words, but for what layers below tell.
func checkOf(l []api.Instr, part int, c api.Config) (api.Summary, int, api.Errno) {
	if part < 0 || part >= len(c.Parts) {
		return api.Summary{}, 0, 2
	}
	if _, n, err := height.Heights(l, c.Parts[part].Stack); err != 0 {
		return api.Summary{}, n, err
	}
	come := sample.Reach(sample.Links(l), []int{0})
	for n, i := range l {
		if err := ownOf(i, part, c); come[n] && err != 0 {
			return api.Summary{}, n, err
		}
	}
	var s api.Summary
	s.Height, _ = height.Most(l, c.Parts[part].Stack)
	if _, is := sample.Loop(l); !is {
		s.Fuel, _, _ = cost.Worst(l)
	}
	for n := range 16 {
		bit := uint32(1) << n
		if doesAny(l, come, n, 23, 24) {
			s.Reads += bit
		}
		if doesAny(l, come, n, 25, 26) {
			s.Writes += bit
		}
		if doesAny(l, come, n, 21) {
			s.Ins += bit
		}
		if doesAny(l, come, n, 22) {
			s.Outs += bit
		}
	}
	return s, 0, 0
}

// doesAny tells whether one of these Ops, with A as told, is come to.
func doesAny(l []api.Instr, come []bool, a int, ops ...uint8) bool {
	for n, i := range l {
		for _, op := range ops {
			if come[n] && i.Op == op && int(i.A) == a {
				return true
			}
		}
	}
	return false
}
