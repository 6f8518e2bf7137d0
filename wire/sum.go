package wire

// halfBytes says by what the register is changed when 4 bits are shifted out of
// it: the entry i is what i becomes when it is shifted right by one bit four
// times, and XORed with 82F63B78 whenever a 1 was shifted out.
var halfBytes = [16]uint32{
	0x00000000, 0x105ec76f, 0x20bd8ede, 0x30e349b1,
	0x417b1dbc, 0x5125dad3, 0x61c69362, 0x7198540d,
	0x82f63b78, 0x92a8fc17, 0xa24bb5a6, 0xb21572c9,
	0xc38d26c4, 0xd3d3e1ab, 0xe330a81a, 0xf36e6f75,
}

// Sum returns the CRC-32C checksum of s.
func Sum(s string) int {
	register := ^uint32(0)
	for i := 0; i < len(s); i++ {
		register ^= uint32(s[i])
		register = register>>4 ^ halfBytes[register%16]
		register = register>>4 ^ halfBytes[register%16]
	}
	return int(^register)
}
