// Package crc: sums of records: see doc/01-crc.md.
package crc

// nibbles holds what each value of four bits does to a sum: Castagnoli's
// polynomial, turned (82f63b78), divided out of it. A table of whole bytes
// would be longer than a table may be.
var nibbles = [16]uint32{
	0x00000000, 0x105ec76f, 0x20bd8ede, 0x30e349b1,
	0x417b1dbc, 0x5125dad3, 0x61c69362, 0x7198540d,
	0x82f63b78, 0x92a8fc17, 0xa24bb5a6, 0xb21572c9,
	0xc38d26c4, 0xd3d3e1ab, 0xe330a81a, 0xf36e6f75,
}

// Sum is the CRC-32C of b.
func Sum(b []byte) uint32 { return More(0, b) }

// More is the Sum of a text and b behind it, where s is the Sum of the text.
func More(s uint32, b []byte) uint32 {
	// A sum is told with its bits turned over; the work goes on with them
	// as they were.
	s = ^s
	for _, c := range b {
		s = addByte(s, c)
	}
	return ^s
}

// addByte takes in a byte, its lower four bits first, as the polynomial is
// turned.
func addByte(s uint32, c byte) uint32 {
	s ^= uint32(c)
	s = nibbles[s&15] ^ s>>4
	return nibbles[s&15] ^ s>>4
}
