package sum

// table is what each byte makes of nought: by it a byte is taken at once, not bit by bit.
type table [256]uint32

func (t *table) fill() {
	for b := range 256 {
		t[b] = moved(uint32(b))
	}
}

// take puts bytes into what has been made so far.
func (t *table) take(rest uint32, part []byte) uint32 {
	for _, b := range part {
		rest = rest>>8 ^ t[byte(rest)^b] // the higher bits come down as they are: what they make is put in later
	}
	return rest
}

// moved is what is left when 8 bits go, one by one.
func moved(rest uint32) uint32 {
	for range 8 {
		goes := rest & 1
		rest >>= 1
		if goes == 1 {
			rest ^= 0xEDB88320
		}
	}
	return rest
}
