package tests

import (
	"bytes"
	"encoding/binary"
	"math"
	"math/rand"
	"slices"
	"strings"
	"testing"

	"loop.example/g00754/impl"
)

const valueLetters = "abcdefghijklmnopqrstuvwxyz0123456789"

// The numbers of the chapter, and they have no type of their own: an int64 and a byte take them.
const (
	asKind int64 = impl.NdLeaf
	asByte byte  = impl.NdFork
)

func TestP3Constants(t *testing.T) {
	if impl.MaxValue != 12 || impl.NdLeaf != 1 || impl.NdStem != 2 || impl.NdFork != 3 || asKind != 1 || asByte != 3 {
		t.Fatalf("MaxValue %d, NdLeaf %d, NdStem %d, NdFork %d, want 12, 1, 2, 3", impl.MaxValue, impl.NdLeaf, impl.NdStem, impl.NdFork)
	}
}

func leafOf(value string, path ...int64) impl.Node {
	return impl.Node{Kind: 1, Path: path, Value: value}
}

func stemOf(name int64, path ...int64) impl.Node {
	return impl.Node{Kind: 2, Path: path, Kids: []impl.Kid{{At: 0, Name: name}}}
}

func forkOf(value string, kids ...impl.Kid) impl.Node {
	return impl.Node{Kind: 3, Kids: kids, Value: value}
}

// kidsAt are Kids at these numbers, each under a name of its own.
func kidsAt(ats ...int64) []impl.Kid {
	kids := []impl.Kid{}
	for i, at := range ats {
		kids = append(kids, impl.Kid{At: at, Name: int64(i) + 1000})
	}
	return kids
}

func upTo(count int64) []int64 {
	list := []int64{}
	for n := range count {
		list = append(list, n)
	}
	return list
}

// sameNode holds an empty list and nil to be the same value.
func sameNode(a, b impl.Node) bool {
	return a.Kind == b.Kind && a.Value == b.Value && slices.Equal(a.Path, b.Path) && slices.Equal(a.Kids, b.Kids)
}

func cloneNode(n impl.Node) impl.Node {
	n.Path, n.Kids, n.Value = slices.Clone(n.Path), slices.Clone(n.Kids), strings.Clone(n.Value)
	return n
}

// bytesOf is NodeBytes of a right node, written out with nothing of the program.
func bytesOf(n impl.Node) []byte {
	w := new(bytes.Buffer)
	w.Write([]byte{byte(n.Kind), byte(len(n.Path))})
	for _, step := range n.Path {
		w.WriteByte(byte(step))
	}
	w.WriteByte(byte(len(n.Value)))
	w.WriteString(n.Value)
	w.WriteByte(byte(len(n.Kids)))
	for _, kid := range n.Kids {
		w.WriteByte(byte(kid.At))
		binary.Write(w, binary.LittleEndian, kid.Name)
	}
	return w.Bytes()
}

func mustBeNode(t *testing.T, n impl.Node) {
	t.Helper()
	if !impl.NodeOk(n) {
		t.Fatalf("NodeOk(%v) is false", n)
	}
	want := bytesOf(n)
	if got := impl.NodeBytes(n); !bytes.Equal(got, want) {
		t.Fatalf("NodeBytes(%v) = %v, want %v", n, got, want)
	}
	if back, is := impl.NodeFrom(want); !is || !sameNode(back, n) {
		t.Fatalf("NodeFrom(%v) = %v, %v, want %v", want, back, is, n)
	}
}

// mustBeNoNode asks too that what its bytes would be is not read.
func mustBeNoNode(t *testing.T, n impl.Node) {
	t.Helper()
	if impl.NodeOk(n) {
		t.Fatalf("NodeOk(%v) is true", n)
	}
	if got := impl.NodeBytes(n); len(got) != 0 {
		t.Fatalf("NodeBytes(%v) = %v, want nothing", n, got)
	}
	inBytes := func(number int64) bool { return 0 <= number && number <= 255 }
	told := inBytes(n.Kind) && len(n.Path) <= 255 && len(n.Value) <= 255 && len(n.Kids) <= 255
	for _, step := range n.Path {
		told = told && inBytes(step)
	}
	for _, kid := range n.Kids {
		told = told && inBytes(kid.At)
	}
	if told { // else the bytes are those of another node, which may be right
		mustBeNoBytes(t, bytesOf(n))
	}
}

func mustBeNoBytes(t *testing.T, b []byte) {
	t.Helper()
	if n, is := impl.NodeFrom(b); is || !sameNode(n, impl.Node{}) {
		t.Fatalf("NodeFrom(%v) = %v, %v, want the zero Node, false", b, n, is)
	}
}

// rightNodes are ordinary ones and those at the edges.
func rightNodes() []impl.Node {
	all := kidsAt(upTo(16)...)
	far := slices.Clone(all)
	for i := range far {
		far[i].Name = math.MaxInt64 - int64(i)
	}
	return []impl.Node{
		leafOf("a"), leafOf("0"), leafOf("z9"), leafOf("abc", 1, 15), leafOf("q", 0), leafOf("q", 0, 0, 0), leafOf("x", 15),
		leafOf("abcdefghij09", 1, 2, 3, 4, 5, 6, 7, 8), leafOf("zzzzzzzzzzzz", 15, 15, 15, 15, 15, 15, 15, 15), leafOf("000000000000"),
		stemOf(1, 7), stemOf(259, 0), stemOf(math.MaxInt64, 15), stemOf(1<<40, 1, 2), stemOf(255, 8, 7, 6, 5, 4, 3, 2, 1), stemOf(256, 0, 0, 0, 0, 0, 0, 0, 0),
		forkOf("", kidsAt(0, 1)...), forkOf("", kidsAt(0, 15)...), forkOf("", kidsAt(14, 15)...), forkOf("", kidsAt(3, 7, 9)...),
		forkOf("q", kidsAt(3)...), forkOf("q", kidsAt(0)...), forkOf("q", kidsAt(15)...), forkOf("abcdefghij09", kidsAt(2, 5)...),
		forkOf("", all...), forkOf("a", all...), forkOf("zzzzzzzzzzzz", far...), forkOf("", all[1:]...),
		forkOf("", impl.Kid{At: 1, Name: 5}, impl.Kid{At: 2, Name: 5}), forkOf("", impl.Kid{At: 1, Name: 9}, impl.Kid{At: 2, Name: 4}),
	}
}

// drawnNode is a right one.
func drawnNode(r *rand.Rand) impl.Node {
	value := func() string {
		b := make([]byte, 1+r.Intn(12))
		for i := range b {
			b[i] = valueLetters[r.Intn(len(valueLetters))]
		}
		return string(b)
	}
	path := func(least int) []int64 {
		list := make([]int64, least+r.Intn(9-least))
		for i := range list {
			list[i] = int64(r.Intn(16))
		}
		return list
	}
	name := func() int64 { return r.Int63()>>r.Intn(63) | 1 }
	switch r.Intn(3) {
	case 0:
		return leafOf(value(), path(0)...)
	case 1:
		return stemOf(name(), path(1)...)
	}
	n := impl.Node{Kind: 3}
	if r.Intn(2) == 0 {
		n.Value = value()
	}
	chance := 1 + r.Intn(8)
	for at := range int64(16) {
		if r.Intn(8) < chance {
			n.Kids = append(n.Kids, impl.Kid{At: at, Name: name()})
		}
	}
	if len(n.Kids) < 2 {
		n.Kids = []impl.Kid{{At: int64(r.Intn(8)), Name: name()}, {At: int64(8 + r.Intn(8)), Name: name()}}
	}
	return n
}

// P3, by hand: each byte is the document's sentence, written out.
func TestP3ByHand(t *testing.T) {
	for _, c := range []struct {
		n    impl.Node
		want []byte
	}{
		{leafOf("a"), []byte{1, 0, 1, 'a', 0}},
		{leafOf("z0", 0, 15), []byte{1, 2, 0, 15, 2, 'z', '0', 0}},
		{stemOf(259, 7, 8, 9), []byte{2, 3, 7, 8, 9, 0, 1, 0, 3, 1, 0, 0, 0, 0, 0, 0}},
		{stemOf(math.MaxInt64, 0), []byte{2, 1, 0, 0, 1, 0, 255, 255, 255, 255, 255, 255, 255, 127}},
		{forkOf("q", impl.Kid{At: 15, Name: 1}), []byte{3, 0, 1, 'q', 1, 15, 1, 0, 0, 0, 0, 0, 0, 0}},
		{forkOf("", impl.Kid{At: 0, Name: 2}, impl.Kid{At: 4, Name: 1 << 56}), []byte{3, 0, 0, 2, 0, 2, 0, 0, 0, 0, 0, 0, 0, 4, 0, 0, 0, 0, 0, 0, 0, 1}},
	} {
		if got := impl.NodeBytes(c.n); !bytes.Equal(got, c.want) {
			t.Fatalf("NodeBytes(%v) = %v, want %v", c.n, got, c.want)
		}
		mustBeNode(t, c.n)
	}
}

// P3: NodeFrom of NodeBytes is the node.
func TestP3NodeFromOfNodeBytes(t *testing.T) {
	r := rand.New(rand.NewSource(31))
	nodes := rightNodes()
	for range 4000 {
		nodes = append(nodes, drawnNode(r))
	}
	seen := map[string]impl.Node{}
	for _, n := range nodes {
		mustBeNode(t, n)
		b := impl.NodeBytes(n)
		if back, is := impl.NodeFrom(b); !is || !sameNode(back, n) {
			t.Fatalf("NodeFrom(NodeBytes(%v)) = %v, %v", n, back, is)
		}
		if old, is := seen[string(b)]; is && !sameNode(old, n) {
			t.Fatalf("%v and %v have the same bytes", old, n)
		}
		seen[string(b)] = n
	}
}

// P3: an empty list and nil are the same value.
func TestP3EmptyLists(t *testing.T) {
	for _, path := range [][]int64{nil, {}} {
		for _, kids := range [][]impl.Kid{nil, {}} {
			mustBeNode(t, impl.Node{Kind: 1, Path: path, Kids: kids, Value: "a"})
			mustBeNoNode(t, impl.Node{Path: path, Kids: kids})
			mustBeNoNode(t, impl.Node{Kind: 2, Path: path, Kids: kids})
			mustBeNoNode(t, impl.Node{Kind: 3, Path: path, Kids: kids})
		}
		mustBeNode(t, impl.Node{Kind: 3, Path: path, Kids: kidsAt(0, 1)})
		mustBeNoNode(t, impl.Node{Kind: 2, Path: path, Kids: kidsAt(0)})
	}
}

// P3: a kind that is none, those among them of which the lowest bytes are right; and each node taken for another kind.
func TestP3Kinds(t *testing.T) {
	bad := []int64{0, -1, -2, -3, 4, 5, 49, 50, 51, 127, 128, 255, 256, 257, 258, 259, 1<<32 + 1, 1<<32 + 3, -253, -255, math.MinInt64, math.MinInt64 + 1, math.MaxInt64}
	for _, n := range rightNodes() {
		for _, kind := range append([]int64{1, 2, 3}, bad...) {
			bent := n
			bent.Kind = kind
			if kind == n.Kind {
				mustBeNode(t, bent)
			} else {
				mustBeNoNode(t, bent) // no node is right as two kinds
			}
		}
	}
}

// P3: Paths from an empty one to some past MaxKey, of leaf, stem and fork.
func TestP3PathSizes(t *testing.T) {
	for size := range 300 {
		path := slices.Repeat([]int64{int64(size % 16)}, size)
		leaf, stem := leafOf("a", path...), stemOf(9, path...)
		one, two := forkOf("a", kidsAt(0)...), forkOf("", kidsAt(0, 1)...)
		one.Path, two.Path = path, path
		if size <= 8 {
			mustBeNode(t, leaf)
		} else {
			mustBeNoNode(t, leaf)
		}
		if 1 <= size && size <= 8 {
			mustBeNode(t, stem)
		} else {
			mustBeNoNode(t, stem)
		}
		if size == 0 {
			mustBeNode(t, one)
			mustBeNode(t, two)
		} else {
			mustBeNoNode(t, one)
			mustBeNoNode(t, two)
		}
	}
}

// P3: each number at each place of a Path.
func TestP3PathNumbers(t *testing.T) {
	numbers := []int64{math.MinInt64, math.MinInt64 + 3, -1 << 32, -256, -16, 256, 257, 1 << 16, 1 << 32, 1<<32 + 5, math.MaxInt64}
	for n := int64(-10); n <= 255; n++ {
		numbers = append(numbers, n)
	}
	for size := 1; size <= 8; size++ {
		for at := range size {
			for _, number := range numbers {
				path := []int64{3, 11, 7, 14, 0, 10, 5, 15}[:size]
				path[at] = number
				for _, n := range []impl.Node{leafOf("a", path...), stemOf(9, path...)} {
					if 0 <= number && number <= 15 {
						mustBeNode(t, n)
					} else {
						mustBeNoNode(t, n)
					}
				}
			}
		}
	}
}

// P3: Values from an empty one to some past MaxValue, past where a size would fit into one byte or two.
func TestP3ValueSizes(t *testing.T) {
	for _, letter := range []string{"a", "z", "0", "9"} {
		for size := range 300 {
			value := strings.Repeat(letter, size)
			right := 1 <= size && size <= 12
			if impl.ValueOk(value) != right {
				t.Fatalf("ValueOk(%q) = %v", value, !right)
			}
			if right {
				mustBeNode(t, leafOf(value, 1))
			} else {
				mustBeNoNode(t, leafOf(value, 1))
			}
			if size <= 12 {
				mustBeNode(t, forkOf(value, kidsAt(4, 5)...))
			} else {
				mustBeNoNode(t, forkOf(value, kidsAt(4, 5)...))
				mustBeNoNode(t, forkOf(value, kidsAt(4)...))
			}
		}
		for _, size := range []int{65536, 65537, 65548} {
			if value := strings.Repeat(letter, size); impl.ValueOk(value) || impl.NodeOk(leafOf(value)) {
				t.Fatalf("%d of %s are taken for a value", size, letter)
			}
		}
	}
}

// P3: each byte at each place of a value of each size.
func TestP3ValueBytes(t *testing.T) {
	for size := 1; size <= 12; size++ {
		for at := range size {
			for c := range 256 {
				b := []byte("m3az09qx7bcd"[:size])
				b[at] = byte(c)
				value := string(b)
				right := strings.IndexByte(valueLetters, byte(c)) >= 0
				if impl.ValueOk(value) != right {
					t.Fatalf("ValueOk(%q) = %v", value, !right)
				}
				for _, n := range []impl.Node{leafOf(value, 2), forkOf(value, kidsAt(3)...), forkOf(value, kidsAt(3, 4)...)} {
					if right {
						mustBeNode(t, n)
					} else {
						mustBeNoNode(t, n)
					}
				}
			}
		}
	}
}

// P3: no rune past a byte is a letter of a value, though it looks like one, or its lowest byte is one.
func TestP3ValueRunes(t *testing.T) {
	for r := rune(128); r <= 0x10FFFF; r++ {
		if impl.ValueOk(string(r)) {
			t.Fatalf("%q (%#x) is taken for a value", r, r)
		}
	}
	for _, bad := range []string{"é", "ａ", "a１", "ı", "a\u0301", "\xffa", "a\xff", "\xc3a", "\xed\xa0\x80", "\xef\xbf\xbd", " a", "a ", "a b", "A", "aB", "-", "a-b", "a_b", "a=b", "a\n", "\x00", "a\x00", "abcdefghijk ", "@", "`", "{", "/", ":"} {
		if impl.ValueOk(bad) {
			t.Fatalf("ValueOk(%q) is true", bad)
		}
		mustBeNoNode(t, leafOf(bad, 1))
		mustBeNoNode(t, forkOf(bad, kidsAt(1, 2)...))
	}
}

// P3: what a leaf, a stem and a fork must have and must not have: all of these together.
func TestP3Parts(t *testing.T) {
	for _, path := range [][]int64{nil, {4}, {1, 2, 3}} {
		for _, value := range []string{"", "a", "abcdefghij09"} {
			for _, kids := range [][]impl.Kid{nil, kidsAt(0), kidsAt(1), kidsAt(15), kidsAt(0, 1), kidsAt(0, 7, 15), kidsAt(upTo(16)...)} {
				right := map[int64]bool{
					1: value != "" && len(kids) == 0,
					2: len(path) > 0 && value == "" && len(kids) == 1 && kids[0].At == 0,
					3: len(path) == 0 && (len(kids) >= 2 || len(kids) == 1 && value != ""),
				}
				for kind := int64(-1); kind <= 5; kind++ {
					n := impl.Node{Kind: kind, Path: path, Kids: kids, Value: value}
					if right[kind] {
						mustBeNode(t, n)
					} else {
						mustBeNoNode(t, n)
					}
				}
			}
		}
	}
}

// P3: a leaf without a Value or with Kids, a stem with a Value, with two Kids, with none, with At not 0.
func TestP3NoLeavesAndStems(t *testing.T) {
	withKids := leafOf("a", 1)
	withKids.Kids = kidsAt(0)
	withValue := stemOf(7, 1)
	withValue.Value = "a"
	bad := []impl.Node{leafOf(""), leafOf("", 1, 2), withKids, withValue, stemOf(7), {Kind: 2, Path: []int64{1}}}
	for _, kids := range [][]impl.Kid{kidsAt(0, 1), kidsAt(0, 0), kidsAt(0, 1, 2), kidsAt(upTo(16)...)} {
		bad = append(bad, impl.Node{Kind: 2, Path: []int64{1}, Kids: kids})
	}
	for at := int64(1); at <= 255; at++ {
		bad = append(bad, impl.Node{Kind: 2, Path: []int64{1}, Kids: kidsAt(at)})
	}
	for _, at := range []int64{-1, -256, 256, 1 << 32, math.MinInt64, math.MaxInt64} {
		bad = append(bad, impl.Node{Kind: 2, Path: []int64{1}, Kids: kidsAt(at)})
	}
	for _, n := range bad {
		mustBeNoNode(t, n)
	}
}

// P3: a fork has of Kids and Value together at least two, and no Path.
func TestP3ForkHasTwo(t *testing.T) {
	for at := range int64(16) {
		mustBeNode(t, forkOf("a", kidsAt(at)...))
		mustBeNoNode(t, forkOf("", kidsAt(at)...))
	}
	mustBeNoNode(t, forkOf(""))
	mustBeNoNode(t, forkOf("a"))
	mustBeNoNode(t, forkOf("abcdefghij09"))
	for a := range int64(16) {
		for b := range int64(16) {
			for _, value := range []string{"", "a"} {
				if n := forkOf(value, kidsAt(a, b)...); a < b {
					mustBeNode(t, n)
				} else {
					mustBeNoNode(t, n)
				}
			}
		}
	}
	for _, path := range [][]int64{{0}, {1}, {15}, {1, 2, 3, 4, 5, 6, 7, 8}, {16}, {-1}} {
		for _, n := range []impl.Node{forkOf("a", kidsAt(1)...), forkOf("", kidsAt(1, 2)...), forkOf("a", kidsAt(1, 2)...)} {
			n.Path = path
			mustBeNoNode(t, n)
		}
	}
}

// P3: Ats that are alike, that fall, below 0 or above 15, at each place among many.
func TestP3Ats(t *testing.T) {
	for _, ats := range [][]int64{{-1, 0}, {-1, 1}, {0, 16}, {15, 16}, {16, 17}, {2, 2}, {3, 2}, {0, 0}, {15, 15}, {1, 2, 2}, {1, 1, 2}, {1, 3, 2}, {2, 1, 3}, {0, 255}, {0, 256}, {0, 257}, {0, 1<<32 + 1}, {math.MinInt64, 0}, {0, math.MaxInt64}, upTo(17), {0, 1, 2, 3, 4, 5, 6, 7, 8, 9, 10, 11, 12, 13, 14, 15, 15}} {
		mustBeNoNode(t, forkOf("", kidsAt(ats...)...))
		mustBeNoNode(t, forkOf("a", kidsAt(ats...)...))
	}
	for _, at := range []int64{-1, -16, -256, 16, 17, 255, 256, 1 << 32, math.MinInt64, math.MaxInt64} {
		mustBeNoNode(t, forkOf("a", kidsAt(at)...))
	}
	for i := range 16 {
		for _, at := range []int64{-2, -1, 0, 1, 7, 15, 16, 17, 255, 256} {
			ats := upTo(16)
			ats[i] = at
			if at != int64(i) { // all sixteen there are: any other one does not rise, or is past the end
				mustBeNoNode(t, forkOf("", kidsAt(ats...)...))
			}
		}
	}
	for _, count := range []int64{17, 18, 255, 256, 257, 1000} {
		mustBeNoNode(t, forkOf("a", kidsAt(upTo(count)...)...))
		mustBeNoNode(t, forkOf("a", kidsAt(make([]int64, count)...)...))
	}
}

// P3: a Name is more than 0, of each Kid.
func TestP3KidNames(t *testing.T) {
	for _, name := range []int64{0, -1, -255, -1 << 32, math.MinInt64, math.MinInt64 + 1, 1, 2, 255, 256, 1 << 32, 1 << 62, math.MaxInt64} {
		nodes := []impl.Node{stemOf(name, 3), forkOf("a", impl.Kid{At: 2, Name: name})}
		for i := range 16 {
			kids := kidsAt(upTo(16)...)
			kids[i].Name = name
			nodes = append(nodes, forkOf("", kids...), forkOf("a", kids...))
		}
		for _, n := range nodes {
			if name > 0 {
				mustBeNode(t, n)
			} else {
				mustBeNoNode(t, n)
			}
		}
	}
}

// P3: bytes that are cut short at each place, and that have more behind or ahead of them.
func TestP3CutAndLonger(t *testing.T) {
	r := rand.New(rand.NewSource(32))
	nodes := rightNodes()
	for range 300 {
		nodes = append(nodes, drawnNode(r))
	}
	mustBeNoBytes(t, nil)
	mustBeNoBytes(t, []byte{})
	for _, n := range nodes {
		b := bytesOf(n)
		for size := range b {
			mustBeNoBytes(t, b[:size]) // the rest lies in the spare room
			mustBeNoBytes(t, bytes.Clone(b[:size]))
		}
		for _, more := range [][]byte{{0}, {1}, {255}, {0, 0, 0, 0, 0, 0, 0, 0, 0}, b} {
			mustBeNoBytes(t, slices.Concat(b, more))
		}
		mustBeNoBytes(t, slices.Concat([]byte{0}, b))
	}
}

// P3: counts that are past what is there, or past what a node may have with all of it there.
func TestP3Counts(t *testing.T) {
	for count := range 256 {
		path := bytes.Repeat([]byte{1}, count)
		kids := []byte{}
		for at := range count {
			kids = append(append(kids, byte(at)), 9, 0, 0, 0, 0, 0, 0, 0)
		}
		for _, c := range []struct {
			b     []byte
			right bool
		}{
			{slices.Concat([]byte{1, byte(count)}, path, []byte{1, 'a', 0}), count <= 8},
			{slices.Concat([]byte{2, byte(count)}, path, []byte{0, 1, 0, 9, 0, 0, 0, 0, 0, 0, 0}), 1 <= count && count <= 8},
			{slices.Concat([]byte{1, 0, byte(count)}, bytes.Repeat([]byte{'a'}, count), []byte{0}), 1 <= count && count <= 12},
			{slices.Concat([]byte{3, 0, 0, byte(count)}, kids), 2 <= count && count <= 16},
			{slices.Concat([]byte{3, 0, 1, 'a', byte(count)}, kids), 1 <= count && count <= 16},
			{[]byte{1, byte(count)}, false},
			{[]byte{1, byte(count), 1, 1, 'a', 0}, count == 1},
			{[]byte{1, 0, byte(count), 'a', 0}, count == 1},
			{[]byte{1, 0, 1, 'a', byte(count)}, count == 0},
			{[]byte{3, 0, 1, 'a', byte(count), 1, 9, 0, 0, 0, 0, 0, 0, 0}, count == 1},
		} {
			n, is := impl.NodeFrom(c.b)
			if is != c.right || is && !bytes.Equal(bytesOf(n), c.b) {
				t.Fatalf("NodeFrom(%v) = %v, %v, want %v", c.b, n, is, c.right)
			}
			if !is {
				mustBeNoBytes(t, c.b)
			}
		}
	}
}

// P3: a name whose last byte is 128 and more is none, of a stem and of each Kid.
func TestP3NamesPastTheirBytes(t *testing.T) {
	for c := range 256 {
		for _, n := range []impl.Node{stemOf(1, 5), forkOf("a", kidsAt(3)...), forkOf("", kidsAt(3, 4, 5)...)} {
			for kid := range n.Kids {
				b := bytesOf(n)
				b[len(b)-9*(len(n.Kids)-1-kid)-1] = byte(c)
				back, is := impl.NodeFrom(b)
				if is != (c < 128) || is && !bytes.Equal(bytesOf(back), b) {
					t.Fatalf("NodeFrom(%v) = %v, %v", b, back, is)
				}
				if !is {
					mustBeNoBytes(t, b)
				}
			}
		}
	}
}

// P3, from the bytes' side: of drawn and of bent bytes just those are read that are NodeBytes of what is read.
func TestP3BentBytes(t *testing.T) {
	r := rand.New(rand.NewSource(33))
	read := 0
	for range 60000 {
		b := bytesOf(drawnNode(r))
		switch r.Intn(4) {
		case 0:
			b[r.Intn(len(b))] = byte(r.Intn(256))
		case 1:
			b[r.Intn(len(b))] += byte(r.Intn(3)) - 1
		case 2:
			at := r.Intn(len(b))
			b = slices.Delete(b, at, at+1)
		case 3:
			b = drawnBytes(r, 20)
		}
		n, is := impl.NodeFrom(b)
		if !is {
			mustBeNoBytes(t, b)
			continue
		}
		read++
		if !impl.NodeOk(n) || !bytes.Equal(impl.NodeBytes(n), b) || !bytes.Equal(bytesOf(n), b) {
			t.Fatalf("NodeFrom(%v) = %v, of which NodeBytes are %v", b, n, impl.NodeBytes(n))
		}
	}
	if read < 1000 {
		t.Fatalf("only %d were read", read)
	}
}

// P3: the zero Node is none, nor is anything read of nothing but noughts.
func TestP3ZeroNode(t *testing.T) {
	mustBeNoNode(t, impl.Node{})
	for size := range 20 {
		mustBeNoBytes(t, make([]byte, size))
	}
}

// P19: the lists of a node and bytes stay, and so does the spare room behind them; no answer depends on that room.
func TestP19NodesLeaveTheirArguments(t *testing.T) {
	spareKids := []impl.Kid{{At: 5, Name: 77}, {At: 9, Name: 78}, {At: 5, Name: 79}}
	nodes := append(rightNodes(), impl.Node{}, leafOf(""), leafOf("A", 1), stemOf(0, 1), stemOf(3, 16), forkOf("", kidsAt(1)...), forkOf("a", kidsAt(2, 1)...))
	for _, n := range nodes {
		ok, b := impl.NodeOk(cloneNode(n)), impl.NodeBytes(cloneNode(n))
		mustStay(t, n.Path, sparePath, func(path []int64) {
			mustStay(t, n.Kids, spareKids, func(kids []impl.Kid) {
				arg := impl.Node{Kind: n.Kind, Path: path, Kids: kids, Value: n.Value}
				if impl.NodeOk(arg) != ok || !bytes.Equal(impl.NodeBytes(arg), b) {
					t.Fatalf("NodeOk(%v) = %v, NodeBytes = %v with spare room behind it, %v and %v without", n, impl.NodeOk(arg), impl.NodeBytes(arg), ok, b)
				}
			})
		})
	}
	for _, n := range nodes {
		whole := bytesOf(n)
		for _, b := range [][]byte{whole, whole[:len(whole)-1], append(bytes.Clone(whole), 0)} {
			back, is := impl.NodeFrom(bytes.Clone(b))
			mustStay(t, b, spareBytes, func(arg []byte) {
				if again, was := impl.NodeFrom(arg); was != is || !sameNode(again, back) {
					t.Fatalf("NodeFrom(%v) = %v, %v with spare room behind it, %v, %v without", b, again, was, back, is)
				}
			})
		}
	}
}

// P19: the bytes of a node are new memory, and stay when the node is written into.
func TestP19NodeBytesAreNewMemory(t *testing.T) {
	for _, n := range append(rightNodes(), impl.Node{}, leafOf("")) {
		mustBeNew(t, func() []byte { return impl.NodeBytes(n) })
		arg := cloneNode(n)
		b := impl.NodeBytes(arg)
		want := bytes.Clone(b)
		spoilNode(arg)
		if !bytes.Equal(b, want) {
			t.Fatalf("the bytes of %v are %v once it is written into", n, b)
		}
	}
}

// P19: a node that is read is new memory: it stays when its bytes, or another one read of them, are written into.
func TestP19NodesAreNewMemory(t *testing.T) {
	for _, n := range rightNodes() {
		b := bytesOf(n)
		first, _ := impl.NodeFrom(b)
		second, _ := impl.NodeFrom(b)
		spoil(b)
		if !sameNode(first, n) || !sameNode(second, n) {
			t.Fatalf("%v is %v and %v once its bytes are written into", n, first, second)
		}
		spoilNode(first)
		if !sameNode(second, n) {
			t.Fatalf("%v is %v once another one read of its bytes is written into", n, second)
		}
		if third, is := impl.NodeFrom(bytesOf(n)); !is || !sameNode(third, n) {
			t.Fatalf("%v is read as %v behind a spoilt answer", n, third)
		}
	}
}

func spoilNode(n impl.Node) {
	spoil(n.Path)
	kids := n.Kids[:cap(n.Kids)]
	for i := range kids {
		kids[i] = impl.Kid{At: ^kids[i].At, Name: ^kids[i].Name}
	}
}
