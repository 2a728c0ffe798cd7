package pack

// castagnoli is the polynomial of CRC-32C, least significant bit first.
const castagnoli = 2197175160

// register is that of a checksum in the making.
type register uint32

// Sum returns the checksum of s.
func Sum(s string) uint32 {
	r := ^register(0)
	each(s, r.step)
	return ^uint32(r)
}

func (r *register) step(b byte) {
	*r ^= register(b)
	for range 8 {
		out := *r & 1
		*r >>= 1
		if out == 1 {
			*r ^= castagnoli
		}
	}
}

func each(s string, step func(b byte)) {
	for i := range len(s) {
		step(s[i])
	}
}
