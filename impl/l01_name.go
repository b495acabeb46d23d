package impl

// nameSize is how many bytes NameBytes makes of a name.
const nameSize = 8

// Each sum is below its modulus and so below upperPlace: both fit side by side in one name.
const (
	upperStart   = 7
	upperFactor  = 131
	upperModulus = 2147483647
	lowerStart   = 11
	lowerFactor  = 137
	lowerModulus = 2147483629
	upperPlace   = 2147483648
)

// The two halves of a name have types of their own, so that neither is taken for the other.
type (
	upperSum int64
	lowerSum int64
)

// sumOf never wraps around: a sum is below 2^31 and a factor below 2^8.
func sumOf[N ~int64](b []byte, start, factor, modulus N) N {
	sum := start
	for _, c := range b {
		sum = (factor*sum + N(c) + 1) % modulus
	}
	return sum
}

// NameOf is the name of these bytes. The 1 that is added keeps every name above 0.
func NameOf(b []byte) int64 {
	upper := sumOf[upperSum](b, upperStart, upperFactor, upperModulus)
	lower := sumOf[lowerSum](b, lowerStart, lowerFactor, lowerModulus)
	return int64(upper)*upperPlace + int64(lower) + 1
}

// NameBytes is the name in eight bytes, the lowest one first; nothing when it is below 0.
func NameBytes(name int64) []byte {
	if name < 0 {
		return nil
	}
	b := make([]byte, nameSize)
	for i := range b {
		b[i] = byte(name >> (8 * i))
	}
	return b
}

// NameFrom is the name of which NameBytes are just these bytes.
func NameFrom(b []byte) (int64, bool) {
	if len(b) != nameSize {
		return 0, false
	}
	var name int64
	for i, c := range b {
		name |= int64(c) << (8 * i)
	}
	if name < 0 { // NameBytes makes no bytes of such a number
		return 0, false
	}
	return name, true
}
