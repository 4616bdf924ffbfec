package code

// crcSteps: what four bits that are shifted out put into a sum of the reflected polynomial edb88320.
var crcSteps = [16]uint32{
	0x00000000, 0x1db71064, 0x3b6e20c8, 0x26d930ac,
	0x76dc4190, 0x6b6b51f4, 0x4db26158, 0x5005713c,
	0xedb88320, 0xf00f9344, 0xd6d6a3e8, 0xcb61b38c,
	0x9b64c2b0, 0x86d3d2d4, 0xa00ae278, 0xbdbdf21c,
}

// Crc answers the CRC-32 of b.
func Crc(b []byte) uint32 {
	sum := ^uint32(0)
	for _, c := range b {
		sum ^= uint32(c)
		sum = sum>>4 ^ crcSteps[sum&15]
		sum = sum>>4 ^ crcSteps[sum&15]
	}
	return ^sum
}
