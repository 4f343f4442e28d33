// Package crc reckons sums of records: CRC-32C, see doc/01-crc.md.
package crc

// turned is what a remainder becomes of each half byte that is shifted out of
// it, for Castagnoli's polynomial 1EDC6F41 with its bits turned (82F63B78).
// Half bytes keep the table short; whole ones would need 256 words.
var turned = [16]uint32{
	0x00000000, 0x105ec76f, 0x20bd8ede, 0x30e349b1,
	0x417b1dbc, 0x5125dad3, 0x61c69362, 0x7198540d,
	0x82f63b78, 0x92a8fc17, 0xa24bb5a6, 0xb21572c9,
	0xc38d26c4, 0xd3d3e1ab, 0xe330a81a, 0xf36e6f75,
}

// Sum is the sum of b.
func Sum(b []byte) uint32 {
	return More(0, b)
}

// More is the sum of a text whose Sum is s, with b behind it.
func More(s uint32, b []byte) uint32 {
	// A sum is kept with all its bits flipped, so that zeros at a text's
	// beginning or end change it; the remainder itself goes on from text to text.
	rest := ^s
	for _, c := range b {
		rest = halfByte(rest ^ uint32(c))
		rest = halfByte(rest)
	}
	return ^rest
}

// halfByte shifts the lowest four bits out of a remainder.
func halfByte(rest uint32) uint32 {
	return rest>>4 ^ turned[rest&15]
}
