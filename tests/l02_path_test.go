package tests

import (
	"math"
	"math/rand"
	"slices"
	"strings"
	"testing"

	"loop.example/g00754/impl"
)

const hexDigits = "0123456789abcdef"

// worths is what each digit of a key is worth, told by its place among all digits.
func worths(key string) []int64 {
	path := []int64{}
	for i := range len(key) {
		path = append(path, int64(strings.IndexByte(hexDigits, key[i])))
	}
	return path
}

func drawnKeyOf(r *rand.Rand, size int) string {
	b := make([]byte, size)
	for i := range b {
		b[i] = hexDigits[r.Intn(16)]
	}
	return string(b)
}

// someKeys are all keys of one to three digits, and drawn ones of each length.
func someKeys() []string {
	keys := []string{"00000000", "ffffffff", "01234567", "89abcdef", "fedcba98", "0000000f", "f0000000"}
	last := []string{""}
	for range 3 {
		var next []string
		for _, k := range last {
			for i := range 16 {
				next = append(next, k+hexDigits[i:i+1])
			}
		}
		keys = append(keys, next...)
		last = next
	}
	r := rand.New(rand.NewSource(21))
	for size := 4; size <= 8; size++ {
		for range 500 {
			keys = append(keys, drawnKeyOf(r, size))
		}
	}
	return keys
}

func mustBeNoKey(t *testing.T, key string) {
	t.Helper()
	if impl.KeyOk(key) {
		t.Errorf("KeyOk(%q) is true", key)
	}
	if path := impl.PathOf(key); len(path) != 0 {
		t.Errorf("PathOf(%q) = %v, want nothing", key, path)
	}
}

func mustBeNoPath(t *testing.T, path []int64) {
	t.Helper()
	if key := impl.KeyOf(path); key != "" {
		t.Errorf("KeyOf(%v) = %q, want none", path, key)
	}
}

func TestMaxKey(t *testing.T) {
	if impl.MaxKey != 8 {
		t.Errorf("MaxKey = %d, want 8", impl.MaxKey)
	}
}

// Chapter 2, by hand.
func TestP2ByHand(t *testing.T) {
	for _, c := range []struct {
		key  string
		path []int64
	}{
		{"0", []int64{0}},
		{"9", []int64{9}},
		{"a", []int64{10}},
		{"f", []int64{15}},
		{"10", []int64{1, 0}},
		{"0f", []int64{0, 15}},
		{"09af", []int64{0, 9, 10, 15}},
		{"12345678", []int64{1, 2, 3, 4, 5, 6, 7, 8}},
		{"fedcba98", []int64{15, 14, 13, 12, 11, 10, 9, 8}},
	} {
		if !impl.KeyOk(c.key) {
			t.Errorf("KeyOk(%q) is false", c.key)
		}
		if got := impl.PathOf(c.key); !slices.Equal(got, c.path) {
			t.Errorf("PathOf(%q) = %v, want %v", c.key, got, c.path)
		}
		if got := impl.KeyOf(c.path); got != c.key {
			t.Errorf("KeyOf(%v) = %q, want %q", c.path, got, c.key)
		}
	}
}

// P2: KeyOf of PathOf is the key, and the path is what each digit is worth.
func TestP2KeyOfPathOf(t *testing.T) {
	for _, key := range someKeys() {
		if !impl.KeyOk(key) {
			t.Fatalf("KeyOk(%q) is false", key)
		}
		path := impl.PathOf(key)
		if want := worths(key); !slices.Equal(path, want) {
			t.Fatalf("PathOf(%q) = %v, want %v", key, path, want)
		}
		if back := impl.KeyOf(path); back != key {
			t.Fatalf("KeyOf(PathOf(%q)) = %q", key, back)
		}
	}
}

// P2, from the side of the path: what KeyOf takes is just what PathOf makes.
func TestP2PathOfKeyOf(t *testing.T) {
	r := rand.New(rand.NewSource(22))
	for range 20000 {
		path := make([]int64, r.Intn(11))
		right := 1 <= len(path) && len(path) <= 8
		for i := range path {
			path[i] = int64(r.Intn(16))
			if r.Intn(20) == 0 {
				path[i] = int64(r.Intn(40) - 12)
			}
			right = right && 0 <= path[i] && path[i] <= 15
		}
		key := impl.KeyOf(path)
		if right != (key != "") {
			t.Fatalf("KeyOf(%v) = %q", path, key)
		}
		if right && !slices.Equal(impl.PathOf(key), path) {
			t.Fatalf("PathOf(KeyOf(%v)) = %v", path, impl.PathOf(key))
		}
	}
}

// P2: an empty key, and keys of MaxKey, of one more and of many more digits, past where a length would fit into a byte or two.
func TestP2KeySizes(t *testing.T) {
	mustBeNoKey(t, "")
	for _, digit := range []string{"0", "7", "a", "f"} {
		for size := 1; size <= 300; size++ {
			key := strings.Repeat(digit, size)
			if size > 8 {
				mustBeNoKey(t, key)
			} else if !impl.KeyOk(key) || len(impl.PathOf(key)) != size {
				t.Errorf("KeyOk(%q) = %v, PathOf = %v", key, impl.KeyOk(key), impl.PathOf(key))
			}
		}
		for _, size := range []int{65535, 65536, 65537, 65540} {
			mustBeNoKey(t, strings.Repeat(digit, size))
		}
	}
}

// P2: each byte at each place of a key of each size; it is a key with just the sixteen digits.
func TestP2EveryByte(t *testing.T) {
	for size := 1; size <= 8; size++ {
		for at := range size {
			for c := range 256 {
				b := []byte("3b7e0a5f"[:size])
				b[at] = byte(c)
				key := string(b)
				if strings.IndexByte(hexDigits, byte(c)) < 0 {
					mustBeNoKey(t, key)
				} else if !impl.KeyOk(key) || !slices.Equal(impl.PathOf(key), worths(key)) {
					t.Errorf("KeyOk(%q) = %v, PathOf = %v", key, impl.KeyOk(key), impl.PathOf(key))
				}
			}
		}
	}
}

// P2: of all runes just sixteen are digits; others are not, though they look like one, or their lowest byte is one.
func TestP2EveryRune(t *testing.T) {
	for r := rune(128); r <= 0x10FFFF; r++ {
		if key := string(r); impl.KeyOk(key) || len(impl.PathOf(key)) != 0 {
			t.Fatalf("%q (%#x) is taken for a key", key, r)
		}
	}
	for _, r := range []rune{0x0130, 0x0161, 0x0663, 0x0966, 0xFF10, 0xFF41, 0x10030, 0x1D7D8, 0xFFFD, 0x10FFFF} {
		for _, key := range []string{string(r), "1" + string(r), string(r) + "1", "a" + string(r) + "f", "1234567" + string(r), "12345678" + string(r), strings.Repeat(string(r), 8)} {
			mustBeNoKey(t, key)
		}
	}
}

// P2: what is no key: a letter past f or in upper case, what stands beside the digits, blanks, signs, bytes that are no rune.
func TestP2NoKeys(t *testing.T) {
	for _, bad := range []string{
		"g", "z", "G", "A", "F", "aF", "Af", "/", ":", "@", "`", " ", "1 ", " 1", "1 2", "-", "-1", "+1", "0x1", "1_0", "1.0", "1,2",
		"\x00", "1\x00", "\n", "1\n", "\x80", "\xff", "a\xff", "\xffa", "\xc3", "\xc0\xb1", "\xed\xa0\x80", "\xef\xbf\xbd", "1234567\xff", "\xff2345678",
		"1234567g", "g2345678", "123g5678", "12345678 ", " 12345678", "123456789", "g23456789", "abcdefabc",
	} {
		mustBeNoKey(t, bad)
	}
}

// P2: an empty path, and paths of MaxKey, of one more and of many more numbers.
func TestP2PathSizes(t *testing.T) {
	mustBeNoPath(t, nil)
	mustBeNoPath(t, []int64{})
	for worth := range int64(16) {
		for size := 1; size <= 300; size++ {
			path := slices.Repeat([]int64{worth}, size)
			if size > 8 {
				mustBeNoPath(t, path)
			} else if got, want := impl.KeyOf(path), strings.Repeat(hexDigits[worth:worth+1], size); got != want {
				t.Errorf("KeyOf(%v) = %q, want %q", path, got, want)
			}
		}
	}
}

// P2: a number below 0 or above 15 at each place of a path of each size, those among them of which the lowest bytes are right, or that are a digit's own byte.
func TestP2BadNumbers(t *testing.T) {
	bad := []int64{-1, -2, -15, -16, -256, 16, 17, 31, 32, 48, 57, 97, 102, 255, 256, 259, 1 << 16, 1<<31 - 1, 1 << 31, 1 << 32, 1<<32 + 5, -1 << 32, math.MaxInt64, math.MinInt64, math.MinInt64 + 7}
	for size := 1; size <= 8; size++ {
		for at := range size {
			for _, n := range bad {
				path := []int64{3, 11, 7, 14, 0, 10, 5, 15}[:size]
				path[at] = n
				mustBeNoPath(t, path)
			}
		}
	}
}

// Chapter 2: how many are alike, from the beginning on, of two lists of any numbers.
func TestP2CommonOfByHand(t *testing.T) {
	long := make([]int64, 1000)
	for _, c := range []struct {
		a, b []int64
		want int64
	}{
		{nil, nil, 0},
		{nil, []int64{}, 0},
		{nil, []int64{1}, 0},
		{[]int64{}, []int64{0, 0}, 0},
		{[]int64{1}, []int64{1}, 1},
		{[]int64{1}, []int64{2}, 0},
		{[]int64{0}, []int64{0, 0}, 1},
		{[]int64{1, 2}, []int64{1, 2, 3}, 2},
		{[]int64{1, 2, 3}, []int64{1, 2, 4}, 2},
		{[]int64{1, 2, 3}, []int64{1, 5, 3}, 1},
		{[]int64{9, 2, 3}, []int64{1, 2, 3}, 0},
		{[]int64{1, 2, 3, 4, 5, 6, 7, 8}, []int64{1, 2, 3, 4, 5, 6, 7, 8}, 8},
		{[]int64{1, 2, 3, 4, 5, 6, 7, 8, 9}, []int64{1, 2, 3, 4, 5, 6, 7, 8, 9, 10}, 9},
		{[]int64{-5, 16}, []int64{-5, 16}, 2},
		{[]int64{math.MinInt64, math.MaxInt64}, []int64{math.MinInt64, math.MaxInt64, 0}, 2},
		{[]int64{1}, []int64{257}, 0},
		{[]int64{1}, []int64{1<<32 + 1}, 0},
		{[]int64{1}, []int64{-1}, 0},
		{long, long, 1000},
		{long, long[:999], 999},
		{long, append(long[:700:700], 1), 700},
	} {
		if got := impl.CommonOf(c.a, c.b); got != c.want {
			t.Errorf("CommonOf(%v, %v) = %d, want %d", c.a, c.b, got, c.want)
		}
		if got := impl.CommonOf(c.b, c.a); got != c.want {
			t.Errorf("CommonOf(%v, %v) = %d, want %d", c.b, c.a, got, c.want)
		}
	}
}

// Chapter 2: two lists that are made to part at a place, or of which one begins the other.
func TestP2CommonOfDrawn(t *testing.T) {
	r := rand.New(rand.NewSource(23))
	draw := func(size int) []int64 {
		list := make([]int64, size)
		for i := range list {
			list[i] = int64(r.Intn(3))
		}
		return list
	}
	for range 5000 {
		both, a, b := draw(r.Intn(12)), draw(r.Intn(4)), draw(r.Intn(4))
		if len(a) > 0 && len(b) > 0 {
			b[0] = a[0] + 1
		}
		a, b = slices.Concat(both, a), slices.Concat(both, b)
		if got := impl.CommonOf(a, b); got != int64(len(both)) {
			t.Fatalf("CommonOf(%v, %v) = %d, want %d", a, b, got, len(both))
		}
	}
}

// P19: the lists stay, and so does the spare room behind them; no answer depends on that room.
func TestP19PathsLeaveTheirArguments(t *testing.T) {
	lists := [][]int64{nil, {}, {0}, {3}, {15}, {16}, {-1}, {1, 2, 3}, {1, 2, 3, 4}, {1, 2, 3, 4, 5, 6, 7, 8}, {1, 2, 3, 4, 5, 6, 7, 8, 9}}
	for _, a := range lists {
		key := impl.KeyOf(slices.Clone(a))
		mustStay(t, a, sparePath, func(arg []int64) {
			if got := impl.KeyOf(arg); got != key {
				t.Errorf("KeyOf(%v) = %q with spare room behind it, %q without", a, got, key)
			}
		})
		for _, b := range lists {
			common := impl.CommonOf(slices.Clone(a), slices.Clone(b))
			mustStay(t, a, sparePath, func(left []int64) {
				mustStay(t, b, sparePath, func(right []int64) {
					if got := impl.CommonOf(left, right); got != common {
						t.Errorf("CommonOf(%v, %v) = %d with spare room behind them, %d without", a, b, got, common)
					}
				})
			})
		}
	}
}

// P19: two paths share no memory, nor does one with what a later call makes; a key stays when its path is written into.
func TestP19PathsAreNewMemory(t *testing.T) {
	for _, key := range []string{"", "0", "g", "7f", "09af", "12345678", "ffffffff", "123456789"} {
		mustBeNew(t, func() []int64 { return impl.PathOf(key) })
		path := impl.PathOf(key)
		back := impl.KeyOf(path)
		want := strings.Clone(back)
		spoil(path)
		if back != want {
			t.Errorf("the key %q is %q once its path is written into", want, back)
		}
	}
}
