// Package crc is layer 1: a sum over bytes that shows accidents; see shared/doc/01-crc.md.
package crc

// mask has the bits that are turned in a remainder when a bit goes in that is unlike its lowest one.
const mask uint32 = 0xedb88320

// More answers the sum of bytes whose sum is the one handed in, and b behind them: P1.2.
func More(sum uint32, b []byte) uint32 {
	table := halves()
	rest := ^sum
	for _, x := range b {
		// A byte's lowest bits go out first, so its low half goes ahead of its high one.
		rest ^= uint32(x)
		rest = rest>>4 ^ table[rest&15]
		rest = rest>>4 ^ table[rest&15]
	}
	return ^rest
}

// Sum answers the sum of these bytes: P1.1.
func Sum(b []byte) uint32 {
	// No bytes have the sum 0, so any bytes stand behind none.
	return More(0, b)
}

// halves tells for each half of a byte what its four bits turn in a remainder's upper bits.
func halves() [16]uint32 {
	var table [16]uint32
	for half := range table {
		rest := uint32(half)
		for range 4 {
			rest = shift(rest)
		}
		table[half] = rest
	}
	return table
}

// shift takes in one bit, which was turned into the lowest one of rest ahead of this.
func shift(rest uint32) uint32 {
	if rest&1 == 1 {
		return rest>>1 ^ mask
	}
	return rest >> 1
}
