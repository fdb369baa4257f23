package impl

const MaxVector = 80

const (
	maxExponent     = 10000
	generator       = 3
	unitCount       = 255 // the bytes other than 0, all of them powers of the generator
	inverseExponent = unitCount - 1
	byteBits        = 8
)

// The degrees of a product of two bytes that no longer fit into a byte.
const (
	degree8 = iota
	degree9
	degree10
	degree11
	degree12
	degree13
	degree14
	overflowCount
)

// The remainder of x to each overflowing degree modulo the polynomial 0x11B.
var remainders = [overflowCount]byte{
	degree8:  0x1B,
	degree9:  0x36,
	degree10: 0x6C,
	degree11: 0xD8,
	degree12: 0xAB,
	degree13: 0x4D,
	degree14: 0x9A,
}

func Times(a byte, b byte) byte {
	return reduced(polynomialProduct(a, b))
}

func Inverse(a byte) byte {
	// The units form a group of unitCount elements, so a to the power unitCount is 1; 0 stays 0.
	return powerOf(a, inverseExponent)
}

func Power(a byte, n int) (byte, bool) {
	if n < 0 || n > maxExponent {
		return 0, false
	}
	return powerOf(a, n), true
}

func LogOf(a byte) (int, bool) {
	power := byte(1)
	for n := range unitCount {
		if power == a {
			return n, true
		}
		power = Times(power, generator)
	}
	return 0, false
}

func ScaleVector(a byte, v []byte) ([]byte, bool) {
	if !goodVector(v) {
		return nil, false
	}
	scaled := make([]byte, len(v))
	for i, b := range v {
		scaled[i] = Times(a, b)
	}
	return scaled, true
}

func AddVectors(v []byte, w []byte) ([]byte, bool) {
	if !goodPair(v, w) {
		return nil, false
	}
	sum := make([]byte, len(v))
	for i, b := range v {
		sum[i] = b ^ w[i]
	}
	return sum, true
}

func DotVectors(v []byte, w []byte) (byte, bool) {
	if !goodPair(v, w) {
		return 0, false
	}
	dot := byte(0)
	for i, b := range v {
		dot ^= Times(b, w[i])
	}
	return dot, true
}

func goodVector(v []byte) bool {
	return len(v) <= MaxVector
}

func goodPair(v []byte, w []byte) bool {
	return goodVector(v) && len(v) == len(w)
}

// polynomialProduct has no carries, because the coefficients are in GF(2).
func polynomialProduct(a byte, b byte) uint16 {
	product := uint16(0)
	for degree := range byteBits {
		if b>>degree&1 == 1 {
			product ^= uint16(a) << degree
		}
	}
	return product
}

func reduced(product uint16) byte {
	rest := byte(product)
	for over := range overflowCount {
		if product>>(byteBits+over)&1 == 1 {
			rest ^= remainders[over]
		}
	}
	return rest
}

// powerOf squares repeatedly, so that a large exponent costs few products.
func powerOf(a byte, n int) byte {
	power := byte(1)
	for n > 0 {
		if n&1 == 1 {
			power = Times(power, a)
		}
		a = Times(a, a)
		n >>= 1
	}
	return power
}
