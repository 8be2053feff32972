package pack

// largest is the greatest size of a number.
const largest = 4

func sized(size int) bool { return size >= 1 && size <= largest }

// fits says whether n is a number of the size.
func fits(n, size int) bool {
	return sized(size) && n>>(8*size) == 0 // below 0 the sign is left
}

// row is the bytes of a number, the highest first.
func row(n, size int) []byte {
	out := make([]byte, size)
	for place := range size {
		out[size-1-place] = byte(n >> (8 * place))
	}
	return out
}

// number is the number whose bytes are a row; of none it is 0.
func number(row []byte) int {
	n := 0
	for _, b := range row {
		n = n<<8 | int(b)
	}
	return n
}
