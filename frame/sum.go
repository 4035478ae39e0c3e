package frame

// poly is what the register is xored with when a 1 falls out of it.
const poly = 0x82f63b78

// Sum tells bytes' sum.
func Sum(b []byte) uint32 {
	r := ^uint32(0)
	for _, c := range b {
		r = shift(r ^ uint32(c))
	}
	return ^r
}

// shift lets the register go eight places down.
func shift(r uint32) uint32 {
	for range 8 {
		// -(r & 1) is all ones if a 1 falls out, else 0: which bits a body has costs no time.
		r = r>>1 ^ poly&-(r&1)
	}
	return r
}

// seal is bytes' sum as it stands at a frame's end.
func seal(b []byte) [tail]byte {
	s := Sum(b)
	return [tail]byte{byte(s), byte(s >> 8), byte(s >> 16), byte(s >> 24)}
}
