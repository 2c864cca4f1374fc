package pack

const polynomial = 0xedb88320

// Sum: P22.
func Sum(s string) uint32 {
	n := ^uint32(0)
	for i := range len(s) {
		n = stepped(n, s[i])
	}
	return ^n
}

// stepped goes on by one byte.
func stepped(n uint32, b byte) uint32 {
	for range 8 {
		differ := (n^uint32(b))&1 == 1
		n, b = n>>1, b>>1
		if differ {
			n ^= polynomial
		}
	}
	return n
}
