package field

const (
	// units is how many bytes have an inverse: all but 0. The powers of 2 come again after so many.
	units = 255
	// rest is what the polynomial 0x11D leaves of its bit 8, which no byte has.
	rest = 0x11D & 0xFF
)

// tables are the powers of 2, and back.
type tables struct {
	powers [2 * units]byte // told twice over: a sum of two logarithms needs no division
	logs   [units + 1]byte // that of 0 is never asked
}

func (t *tables) fill() {
	power := byte(1)
	for n := range units {
		t.powers[n], t.powers[n+units] = power, power
		t.logs[power] = byte(n)
		power = double(power)
	}
}

// filled asks the power of 2 to 0, which is 1 in tables that were filled and 0 in others.
func (t *tables) filled() bool { return t.powers[0] == 1 }

func (t *tables) product(a, b byte) byte {
	if a == 0 || b == 0 {
		return 0
	}
	return t.powers[int(t.logs[a])+int(t.logs[b])]
}

// power is that of a byte that is not 0.
func (t *tables) power(a byte, n int) byte {
	// turn goes first: the product of a logarithm and any n may be more than an int holds
	return t.powers[turn(int(t.logs[a])*turn(n))]
}

// double is the product with 2.
func double(a byte) byte {
	if a&0x80 == 0 {
		return a << 1
	}
	return a<<1 ^ rest
}

// turn is the exponent from 0 to 254 to which the powers of all bytes but 0 are those to n.
func turn(n int) int {
	n %= units
	if n < 0 {
		n += units
	}
	return n
}
