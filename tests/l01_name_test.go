package tests

import (
	"bytes"
	"encoding/binary"
	"math"
	"math/big"
	"math/rand"
	"testing"

	"loop.example/g00754/impl"
)

// bigSum is one sum of chapter 1 in numbers without a bound.
func bigSum(b []byte, start, factor, modulus int64) *big.Int {
	sum := big.NewInt(start)
	for _, c := range b {
		sum.Mul(sum, big.NewInt(factor))
		sum.Add(sum, big.NewInt(int64(c)))
		sum.Add(sum, big.NewInt(1))
		sum.Mod(sum, big.NewInt(modulus))
	}
	return sum
}

func bigName(b []byte) int64 {
	name := bigSum(b, 7, 131, 2147483647)
	name.Mul(name, big.NewInt(2147483648))
	name.Add(name, bigSum(b, 11, 137, 2147483629))
	name.Add(name, big.NewInt(1))
	if !name.IsInt64() {
		panic("a name is past int64")
	}
	return name.Int64()
}

func drawnBytes(r *rand.Rand, most int) []byte {
	b := make([]byte, r.Intn(most+1))
	r.Read(b)
	return b
}

var manyNames = []int64{
	0, 1, 2, 127, 128, 255, 256, 257, 65535, 65536, 1<<24 - 1, 1 << 24, 1<<31 - 1, 1 << 31, 1<<32 - 1, 1 << 32,
	1 << 40, 1 << 48, 1<<56 - 1, 1 << 56, 1<<62 - 1, 1 << 62, 0x0102030405060708, 0x7f80ff0180fe7f00, math.MaxInt64 - 1, math.MaxInt64,
}

// Chapter 1, by hand: each number is the document's sentence, written out.
func TestNameOfByHand(t *testing.T) {
	for _, c := range []struct {
		b    []byte
		want int64
	}{
		{nil, 7<<31 + 11 + 1},
		{[]byte{}, 7<<31 + 11 + 1},
		{[]byte{0}, (7*131+1)<<31 + (11*137 + 1) + 1},
		{[]byte{255}, (7*131+256)<<31 + (11*137 + 256) + 1},
		{[]byte("a"), (7*131+98)<<31 + (11*137 + 98) + 1},
		{[]byte{0, 0}, ((7*131+1)*131+1)<<31 + ((11*137+1)*137 + 1) + 1},
		{[]byte{1, 2}, ((7*131+2)*131+3)<<31 + ((11*137+2)*137 + 3) + 1},
		{[]byte{2, 1}, ((7*131+3)*131+2)<<31 + ((11*137+3)*137 + 2) + 1},
	} {
		if got := impl.NameOf(c.b); got != c.want {
			t.Errorf("NameOf(%v) = %d, want %d", c.b, got, c.want)
		}
	}
}

func TestNameOfIsTheTwoSums(t *testing.T) {
	r := rand.New(rand.NewSource(1))
	list := [][]byte{nil, []byte("leaf"), bytes.Repeat([]byte{0}, 5000), bytes.Repeat([]byte{255}, 5000)}
	for range 2000 {
		list = append(list, drawnBytes(r, 60))
	}
	for _, b := range list {
		if got, want := impl.NameOf(b), bigName(b); got != want {
			t.Fatalf("NameOf(%v) = %d, want %d", b, got, want)
		}
	}
}

// Texts of which one sum is 0, or the largest that there is.
func TestNameOfAtTheModuli(t *testing.T) {
	for _, c := range []struct{ start, factor, modulus int64 }{
		{7, 131, 2147483647},
		{11, 137, 2147483629},
	} {
		for _, want := range []int64{0, 1, c.modulus - 1} {
			b := bytesWithSum(c.start, c.factor, c.modulus, want)
			if got := bigSum(b, c.start, c.factor, c.modulus).Int64(); got != want {
				t.Fatalf("%v has the sum %d, not %d", b, got, want)
			}
			if got := impl.NameOf(b); got != bigName(b) {
				t.Errorf("NameOf(%v) = %d, want %d", b, got, bigName(b))
			}
		}
	}
}

// bytesWithSum is a text with that sum modulo the modulus. It draws a beginning and makes of what is left to reach the sum
// four digits to the base of the factor, each of which must be one byte and 1.
func bytesWithSum(start, factor, modulus, want int64) []byte {
	r := rand.New(rand.NewSource(modulus))
	for {
		b := drawnBytes(r, 8)
		left := bigSum(b, start, factor, modulus).Int64()
		for range 4 {
			left = left * factor % modulus
		}
		left = (want - left + modulus) % modulus
		tail := make([]byte, 4)
		whole := true
		for i := 3; i >= 0; i-- {
			digit := left % factor
			if i == 0 {
				digit = left
			}
			left /= factor
			whole = whole && 1 <= digit && digit <= 256
			tail[i] = byte(digit - 1)
		}
		if whole {
			return append(b, tail...)
		}
	}
}

// Each byte, its place, and how many there are tell in the name.
func TestNameOfTellsAll(t *testing.T) {
	seen := map[int64][]byte{}
	add := func(b []byte) {
		name := impl.NameOf(b)
		if old, is := seen[name]; is && !bytes.Equal(old, b) {
			t.Fatalf("%v and %v are both named %d", old, b, name)
		}
		seen[name] = bytes.Clone(b)
	}
	for n := range 20 {
		add(make([]byte, n))
		for i := range n {
			for c := range 256 {
				b := make([]byte, n)
				b[i] = byte(c)
				add(b)
			}
		}
	}
}

// P1: the bytes are the eight of the number, the lowest one first, and NameFrom of them is the name.
func TestP1NameFromOfNameBytes(t *testing.T) {
	r := rand.New(rand.NewSource(2))
	names := append([]int64{}, manyNames...)
	for range 2000 {
		names = append(names, r.Int63()>>r.Intn(63), impl.NameOf(drawnBytes(r, 40)))
	}
	for _, name := range names {
		b := impl.NameBytes(name)
		if want := binary.LittleEndian.AppendUint64(nil, uint64(name)); !bytes.Equal(b, want) {
			t.Fatalf("NameBytes(%d) = %v, want %v", name, b, want)
		}
		if back, is := impl.NameFrom(b); back != name || !is {
			t.Fatalf("NameFrom(NameBytes(%d)) = %d, %v", name, back, is)
		}
	}
}

// P1, from the bytes' side: what NameFrom takes is just what NameBytes makes.
func TestP1NameBytesOfNameFrom(t *testing.T) {
	r := rand.New(rand.NewSource(3))
	for range 4000 {
		b := make([]byte, 8)
		r.Read(b)
		name, is := impl.NameFrom(b)
		if is != (b[7] < 128) {
			t.Fatalf("NameFrom(%v) = %d, %v", b, name, is)
		}
		if !is && name != 0 {
			t.Fatalf("NameFrom(%v) = %d beside false", b, name)
		}
		if is && !bytes.Equal(impl.NameBytes(name), b) {
			t.Fatalf("NameBytes(NameFrom(%v)) = %v", b, impl.NameBytes(name))
		}
	}
}

// P1: the edges, byte by byte.
func TestP1Edges(t *testing.T) {
	for _, c := range []struct {
		name int64
		want []byte
	}{
		{0, []byte{0, 0, 0, 0, 0, 0, 0, 0}},
		{1, []byte{1, 0, 0, 0, 0, 0, 0, 0}},
		{256, []byte{0, 1, 0, 0, 0, 0, 0, 0}},
		{1 << 56, []byte{0, 0, 0, 0, 0, 0, 0, 1}},
		{math.MaxInt64, []byte{255, 255, 255, 255, 255, 255, 255, 127}},
	} {
		if got := impl.NameBytes(c.name); !bytes.Equal(got, c.want) {
			t.Errorf("NameBytes(%d) = %v, want %v", c.name, got, c.want)
		}
		if name, is := impl.NameFrom(c.want); name != c.name || !is {
			t.Errorf("NameFrom(%v) = %d, %v, want %d", c.want, name, is, c.name)
		}
	}
}

func TestP1NamesBelowZero(t *testing.T) {
	for _, name := range []int64{-1, -2, -255, -256, -(1 << 31), -(1 << 32), math.MinInt64 + 1, math.MinInt64} {
		if got := impl.NameBytes(name); len(got) != 0 {
			t.Errorf("NameBytes(%d) = %v, want nothing", name, got)
		}
		b := binary.LittleEndian.AppendUint64(nil, uint64(name))
		if got, is := impl.NameFrom(b); got != 0 || is {
			t.Errorf("NameFrom(%v) = %d, %v, want 0, false", b, got, is)
		}
	}
}

// P1: too few bytes and too many, of which the first or the last eight would be a name.
func TestP1NotEightBytes(t *testing.T) {
	for n := range 40 {
		if n == 8 {
			continue
		}
		for _, c := range []byte{0, 1, 127, 128, 255} {
			b := bytes.Repeat([]byte{c}, n)
			if got, is := impl.NameFrom(b); got != 0 || is {
				t.Errorf("NameFrom(%v) = %d, %v, want 0, false", b, got, is)
			}
		}
	}
	if got, is := impl.NameFrom(nil); got != 0 || is {
		t.Errorf("NameFrom(nil) = %d, %v, want 0, false", got, is)
	}
	for _, name := range manyNames {
		b := impl.NameBytes(name)
		for _, bent := range [][]byte{b[:7], b[1:], append(b[:8:8], 0), append([]byte{0}, b...), append(b[:8:8], b...)} {
			if got, is := impl.NameFrom(bent); got != 0 || is {
				t.Errorf("NameFrom(%v) = %d, %v, want 0, false", bent, got, is)
			}
		}
	}
}

// P19: the argument stays, and so does the spare room behind it; the answer does not depend on that room.
func TestP19NamesLeaveTheirArguments(t *testing.T) {
	r := rand.New(rand.NewSource(4))
	list := [][]byte{nil, {}, {7}, impl.NameBytes(0), impl.NameBytes(math.MaxInt64), bytes.Repeat([]byte{255}, 8)}
	for range 200 {
		list = append(list, drawnBytes(r, 16))
	}
	for _, b := range list {
		mustStay(t, b, spareBytes, func(arg []byte) {
			if impl.NameOf(arg) != impl.NameOf(bytes.Clone(b)) {
				t.Errorf("NameOf(%v) tells the spare room", b)
			}
		})
		mustStay(t, b, spareBytes, func(arg []byte) {
			name, is := impl.NameFrom(arg)
			if again, was := impl.NameFrom(bytes.Clone(b)); name != again || is != was {
				t.Errorf("NameFrom(%v) tells the spare room", b)
			}
		})
	}
}

// P19: two answers share no memory, nor does one with what a later call makes.
func TestP19NameBytesAreNewMemory(t *testing.T) {
	for _, name := range append([]int64{-1, math.MinInt64}, manyNames...) {
		mustBeNew(t, func() []byte { return impl.NameBytes(name) })
	}
}
