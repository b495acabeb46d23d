package tests

import (
	"bytes"
	"encoding/binary"
	"fmt"
	"math"
	"math/rand"
	"slices"
	"testing"

	"loop.example/g00754/impl"
)

const (
	maxChanges = 200
	chCell     = 1
	chHead     = 3
	chClear    = 11
)

func sameChange(a, b impl.Change) bool {
	return a.Kind == b.Kind && a.Name == b.Name && bytes.Equal(a.Bytes, b.Bytes)
}

var changeLists = holding[impl.Change]{bytes: func(c *impl.Change) *[]byte { return &c.Bytes }, same: sameChange}

func namedChange(kind, name int64) impl.Change {
	return impl.Change{Kind: kind, Name: name}
}

// cellChange is the ChCell of a node, right or not, written out with nothing of the program but NameOf.
func cellChange(n impl.Node) impl.Change {
	b := bytesOf(n)
	return impl.Change{Kind: chCell, Name: impl.NameOf(b), Bytes: b}
}

// otherKinds are those of changes that are told by their names alone.
func otherKinds() []int64 {
	return []int64{2, 3, 4, 5, 6, 7, 8, 9, 10, 11}
}

// changeBytesOf is what the document's words tell of one change, also of one that is not right.
func changeBytesOf(c impl.Change) []byte {
	b := []byte{byte(c.Kind)}
	if c.Kind == chCell {
		b = binary.LittleEndian.AppendUint16(b, uint16(len(c.Bytes)))
		return append(b, c.Bytes...)
	}
	return binary.LittleEndian.AppendUint64(b, uint64(c.Name))
}

// changesBytesOf is what they tell of a list; what does not fit into its bytes is cut off.
func changesBytesOf(list ...impl.Change) []byte {
	b := binary.LittleEndian.AppendUint16(nil, uint16(len(list)))
	for _, c := range list {
		b = append(b, changeBytesOf(c)...)
	}
	return b
}

// rightByWords is what the document's words tell of a change.
func rightByWords(c impl.Change) bool {
	if c.Kind == chCell {
		n, is := impl.NodeFrom(c.Bytes)
		return is && bytes.Equal(bytesOf(n), c.Bytes) && c.Name == impl.NameOf(c.Bytes)
	}
	return slices.Contains(otherKinds(), c.Kind) && c.Name >= 0 && len(c.Bytes) == 0
}

// partByWords is the first change of these bytes, right or not, and what is behind it; false where they are too few.
func partByWords(b []byte) (impl.Change, []byte, bool) {
	if len(b) == 0 {
		return impl.Change{}, nil, false
	}
	c, ahead, size := impl.Change{Kind: int64(b[0])}, 1, 8
	if c.Kind == chCell {
		if len(b) < 3 {
			return impl.Change{}, nil, false
		}
		ahead, size = 3, int(b[1])+256*int(b[2])
	}
	if len(b) < ahead+size {
		return impl.Change{}, nil, false
	}
	part := b[ahead : ahead+size]
	if c.Kind == chCell {
		c.Name, c.Bytes = impl.NameOf(part), bytes.Clone(part)
	} else {
		c.Name = int64(binary.LittleEndian.Uint64(part))
	}
	return c, b[ahead+size:], true
}

// changesByWords is what the document's words tell of any bytes: the list that is told by just these.
func changesByWords(b []byte) ([]impl.Change, bool) {
	if len(b) < 2 {
		return nil, false
	}
	count, left := int(binary.LittleEndian.Uint16(b)), b[2:]
	list := []impl.Change{}
	for len(list) < count {
		c, behind, is := partByWords(left)
		if !is || !rightByWords(c) || len(list) == maxChanges {
			return nil, false
		}
		list, left = append(list, c), behind
	}
	return list, len(left) == 0 && bytes.Equal(changesBytesOf(list...), b)
}

// mustBeChanges asks for both ways of a right list.
func mustBeChanges(t *testing.T, list ...impl.Change) {
	t.Helper()
	for _, c := range list {
		if !impl.ChangeOk(c) {
			t.Fatalf("ChangeOk(%v) is false", c)
		}
	}
	want := changesBytesOf(list...)
	b, is := impl.ChangesBytes(list)
	if !is || !bytes.Equal(b, want) {
		t.Fatalf("ChangesBytes(%v) = %v, %v, want %v, true", list, b, is, want)
	}
	if back, is := impl.ChangesFrom(want); !is || !changeLists.alike(back, list) {
		t.Fatalf("ChangesFrom(%v) = %v, %v, want %v, true", want, back, is, list)
	}
}

// mustMakeNothing asks for the fixed answer at a list that is not right.
func mustMakeNothing(t *testing.T, list ...impl.Change) {
	t.Helper()
	if b, is := impl.ChangesBytes(list); is || len(b) != 0 {
		t.Fatalf("ChangesBytes(%v) = %v, %v, want nothing, false", list, b, is)
	}
}

// mustTellNothing asks for the fixed answer at bytes of no list.
func mustTellNothing(t *testing.T, b []byte) {
	t.Helper()
	if list, is := impl.ChangesFrom(b); is || len(list) != 0 {
		t.Fatalf("ChangesFrom(%v) = %v, %v, want nothing, false", b, list, is)
	}
}

// mustTell asks of any bytes for what the document's words tell of them, and that they are made of it again.
func mustTell(t *testing.T, b []byte) bool {
	t.Helper()
	want, is := changesByWords(b)
	if !is {
		mustTellNothing(t, b)
		return false
	}
	list, told := impl.ChangesFrom(b)
	if !told || !changeLists.alike(list, want) {
		t.Fatalf("ChangesFrom(%v) = %v, %v, want %v, true", b, list, told, want)
	}
	if again, made := impl.ChangesBytes(list); !made || !bytes.Equal(again, b) {
		t.Fatalf("ChangesFrom(%v) = %v, of which ChangesBytes is %v, %v", b, list, again, made)
	}
	return true
}

// mustBeNoChange asks for a change that is not right, alone and among right ones; and that what its bytes would be is not read, where they tell all of it.
func mustBeNoChange(t *testing.T, c impl.Change) {
	t.Helper()
	if impl.ChangeOk(c) {
		t.Fatalf("ChangeOk(%v) is true", c)
	}
	before, behind := cellChange(leafOf("y", 1)), namedChange(chHead, 259)
	for _, list := range [][]impl.Change{{c}, {c, behind}, {before, c}, {before, behind, c, c, before, behind}} {
		mustMakeNothing(t, list...)
		if part, left, is := partByWords(changeBytesOf(c)); is && len(left) == 0 && sameChange(part, c) {
			mustTellNothing(t, changesBytesOf(list...))
		}
	}
}

// oneOfEach is one change of each kind, no two of one name.
func oneOfEach() []impl.Change {
	list := []impl.Change{cellChange(forkOf("v", kidsAt(1, 15)...))}
	for _, kind := range otherKinds() {
		list = append(list, namedChange(kind, 0x0102030405060700+kind))
	}
	return list
}

// manyOfAll are that many changes of all kinds.
func manyOfAll(count int) []impl.Change {
	list := []impl.Change{}
	for i := range count {
		c := oneOfEach()[i%11]
		if c.Kind == chCell {
			c = cellChange(rightNodes()[i/11%len(rightNodes())])
		}
		list = append(list, c)
	}
	return list
}

// someChanges are right lists: of none, of one, of some, and of as many as there may be.
func someChanges() [][]impl.Change {
	cell, other := cellChange(leafOf("y")), cellChange(stemOf(259, 1, 2))
	lists := [][]impl.Change{
		nil, {}, {cell}, {namedChange(chClear, 0)}, {cell, cell}, {cell, other, cell}, {other, cell},
		{namedChange(chHead, 5), namedChange(chHead, 5)}, {namedChange(chHead, 5), cell}, {cell, namedChange(chHead, cell.Name), namedChange(2, other.Name)},
		oneOfEach(), append(oneOfEach(), oneOfEach()...), manyOfAll(maxChanges - 1), manyOfAll(maxChanges),
		slices.Repeat([]impl.Change{namedChange(chClear, 0)}, maxChanges), slices.Repeat([]impl.Change{cellChange(widestNode())}, maxChanges),
	}
	for _, c := range oneOfEach() {
		lists = append(lists, []impl.Change{c})
	}
	return lists
}

// widestNode is one whose bytes are as many as a node can have.
func widestNode() impl.Node {
	return forkOf("abcdefghij09", kidsAt(upTo(16)...)...)
}

// nodesToBend are nodes of which no part of the bytes is a node's again.
func nodesToBend() []impl.Node {
	return append(sampleNodes(), leafOf("ab", 1, 15), leafOf("abcdefghij09", 1, 2, 3, 4, 5, 6, 7, 8), stemOf(math.MaxInt64, 15), forkOf("q", kidsAt(3)...), selfNamed(), widestNode())
}

// drawnChange is a right one.
func drawnChange(r *rand.Rand) impl.Change {
	if r.Intn(3) == 0 {
		return cellChange(drawnNode(r))
	}
	return namedChange(otherKinds()[r.Intn(10)], r.Int63()>>r.Intn(64))
}

func drawnChanges(r *rand.Rand, most int) []impl.Change {
	list := make([]impl.Change, r.Intn(most+1))
	for i := range list {
		list[i] = drawnChange(r)
	}
	return list
}

// shortChanges are lists whose bytes are few enough to be bent at each place.
func shortChanges() [][]impl.Change {
	lists := [][]impl.Change{}
	for _, list := range someChanges() {
		if len(list) <= 3 {
			lists = append(lists, list)
		}
	}
	return append(lists, oneOfEach(), []impl.Change{cellChange(widestNode())})
}

func TestP12Constants(t *testing.T) {
	kinds := []int64{impl.ChCell, impl.ChGone, impl.ChHead, impl.ChPin, impl.ChUnpin, impl.ChGrey, impl.ChUngrey, impl.ChBlack, impl.ChPhase, impl.ChCursor, impl.ChClear}
	if impl.MaxChanges != maxChanges || !slices.Equal(kinds, []int64{1, 2, 3, 4, 5, 6, 7, 8, 9, 10, 11}) {
		t.Fatalf("MaxChanges is %d, and the kinds are %v", impl.MaxChanges, kinds)
	}
	var asByte byte = impl.ChClear
	var asInt int = impl.MaxChanges
	if asByte != 11 || asInt != 200 {
		t.Fatalf("ChClear is %d, and MaxChanges %d", asByte, asInt)
	}
}

// P12, by hand: each byte is the document's sentence, written out.
func TestP12ByHand(t *testing.T) {
	leaf := []byte{1, 2, 1, 15, 2, 'a', 'b', 0}
	cell := impl.Change{Kind: 1, Name: impl.NameOf(leaf), Bytes: leaf}
	widest := bytesOf(widestNode())
	if len(widest) != 160 {
		t.Fatalf("the widest node has %d bytes", len(widest))
	}
	for _, c := range []struct {
		list []impl.Change
		want []byte
	}{
		{nil, []byte{0, 0}},
		{[]impl.Change{cell}, []byte{1, 0, 1, 8, 0, 1, 2, 1, 15, 2, 'a', 'b', 0}},
		{[]impl.Change{{Kind: 2, Name: 0}}, []byte{1, 0, 2, 0, 0, 0, 0, 0, 0, 0, 0}},
		{[]impl.Change{{Kind: 11, Name: 0x0102030405060708}}, []byte{1, 0, 11, 8, 7, 6, 5, 4, 3, 2, 1}},
		{[]impl.Change{{Kind: 9, Name: math.MaxInt64}}, []byte{1, 0, 9, 255, 255, 255, 255, 255, 255, 255, 127}},
		{[]impl.Change{{Kind: 3, Name: 259}, cell, {Kind: 7, Name: 1}}, []byte{
			3, 0, 3, 3, 1, 0, 0, 0, 0, 0, 0, 1, 8, 0, 1, 2, 1, 15, 2, 'a', 'b', 0, 7, 1, 0, 0, 0, 0, 0, 0, 0}},
		{[]impl.Change{cellChange(widestNode())}, slices.Concat([]byte{1, 0, 1, 160, 0}, widest)},
		{slices.Repeat([]impl.Change{{Kind: 4, Name: 5}}, 200), slices.Concat([]byte{200, 0}, bytes.Repeat([]byte{4, 5, 0, 0, 0, 0, 0, 0, 0}, 200))},
	} {
		if b, is := impl.ChangesBytes(c.list); !is || !bytes.Equal(b, c.want) {
			t.Fatalf("ChangesBytes(%v) = %v, %v, want %v, true", c.list, b, is, c.want)
		}
		if list, is := impl.ChangesFrom(c.want); !is || !changeLists.alike(list, c.list) {
			t.Fatalf("ChangesFrom(%v) = %v, %v, want %v, true", c.want, list, is, c.list)
		}
	}
}

// P12: a list of none, of one, of some, and of as many as there may be.
func TestP12ChangesFromOfChangesBytes(t *testing.T) {
	for _, list := range someChanges() {
		mustBeChanges(t, list...)
	}
	all := manyOfAll(maxChanges)
	for count := range maxChanges + 1 {
		mustBeChanges(t, all[:count]...)
		mustBeChanges(t, all[count:]...)
	}
	r := rand.New(rand.NewSource(120))
	for range 1000 {
		mustBeChanges(t, drawnChanges(r, 12)...)
		mustBeChanges(t, drawnChanges(r, maxChanges)...)
	}
}

// P12: the parts of the bytes, each for itself: how many there are, then of each its kind and NameBytes or its bytes.
func TestP12BytesAreTheirParts(t *testing.T) {
	r := rand.New(rand.NewSource(121))
	for range 2000 {
		list := drawnChanges(r, maxChanges)
		b, is := impl.ChangesBytes(list)
		if !is || len(b) < 2 || int(b[0])+256*int(b[1]) != len(list) {
			t.Fatalf("ChangesBytes of %d changes = %v, %v", len(list), b, is)
		}
		left := b[2:]
		for _, c := range list {
			part := append([]byte{byte(c.Kind)}, impl.NameBytes(c.Name)...)
			if c.Kind == chCell {
				part = append([]byte{1, byte(len(c.Bytes)), 0}, c.Bytes...)
			}
			if !bytes.HasPrefix(left, part) {
				t.Fatalf("%v is %v in the bytes, want %v", c, left[:min(len(left), len(part))], part)
			}
			left = left[len(part):]
		}
		if len(left) != 0 {
			t.Fatalf("behind all of %v there are %v", list, left)
		}
	}
}

// P12: the order of a list is told, and so is one that is there more than once.
func TestP12OrderIsTold(t *testing.T) {
	r := rand.New(rand.NewSource(122))
	for range 300 {
		list := append(manyOfAll(44), drawnChanges(r, 10)...)
		r.Shuffle(len(list), func(i, k int) { list[i], list[k] = list[k], list[i] })
		mustBeChanges(t, list...)
		slices.Reverse(list)
		mustBeChanges(t, list...)
		mustBeChanges(t, append(list, list...)...)
	}
	a, b := oneOfEach()[2], oneOfEach()[3]
	first, _ := impl.ChangesBytes([]impl.Change{a, b})
	second, _ := impl.ChangesBytes([]impl.Change{b, a})
	if bytes.Equal(first, second) {
		t.Fatalf("both orders are %v", first)
	}
}

// P12: a kind is from 1 to 11, also where one of these is behind 256 or more, and in the bytes each of one byte.
func TestP12Kinds(t *testing.T) {
	cell := cellChange(leafOf("y"))
	kinds := []int64{math.MinInt64, math.MinInt64 + 1, math.MinInt64 + 3, math.MaxInt64}
	for kind := int64(-600); kind <= 1200; kind++ {
		kinds = append(kinds, kind)
	}
	for kind := range int64(13) {
		kinds = append(kinds, 1<<16+kind, 1<<31+kind, 1<<32+kind, 1<<40+kind, 1<<62+kind, -1<<32+kind)
	}
	for _, kind := range kinds {
		for _, name := range []int64{0, 1, 259, cell.Name, math.MaxInt64} {
			c := namedChange(kind, name)
			if 2 <= kind && kind <= 11 {
				mustBeChanges(t, c)
			} else {
				mustBeNoChange(t, c)
			}
		}
		c := impl.Change{Kind: kind, Name: cell.Name, Bytes: cell.Bytes}
		if kind == 1 {
			mustBeChanges(t, c)
		} else {
			mustBeNoChange(t, c)
		}
	}
	for kind := range 256 {
		b := slices.Concat([]byte{1, 0, byte(kind)}, make([]byte, 8))
		if mustTell(t, b) != (2 <= kind && kind <= 11) {
			t.Fatalf("ChangesFrom(%v) does not ask for the kind", b)
		}
		b = slices.Concat([]byte{1, 0, byte(kind), byte(len(cell.Bytes)), 0}, cell.Bytes)
		if mustTell(t, b) != (kind == 1) {
			t.Fatalf("ChangesFrom(%v) does not ask for the kind", b)
		}
	}
}

// P12: a name is from 0 on; each of these is told by each kind but ChCell.
func TestP12Names(t *testing.T) {
	r := rand.New(rand.NewSource(123))
	names := append(slices.Clone(manyNames), 0, 1, math.MaxInt64)
	for range 200 {
		names = append(names, r.Int63()>>r.Intn(64))
	}
	for _, kind := range otherKinds() {
		for _, name := range names {
			mustBeChanges(t, namedChange(kind, name))
			mustBeNoChange(t, namedChange(kind, -1-name))
			if name > 0 {
				mustBeNoChange(t, namedChange(kind, -name))
			}
		}
	}
}

// P12: a ChCell has the bytes of a node and its name, of each kind of nodes and at the edges.
func TestP12CellsOfNodes(t *testing.T) {
	r := rand.New(rand.NewSource(124))
	nodes := append(rightNodes(), selfNamed(), widestNode())
	for range 500 {
		nodes = append(nodes, drawnNode(r))
	}
	all := []impl.Change{}
	for _, n := range nodes {
		mustBeChanges(t, cellChange(n))
		all = append(all, cellChange(n))
	}
	for part := range slices.Chunk(all, maxChanges) {
		mustBeChanges(t, part...)
	}
}

// P12: two nodes of one name stay two.
func TestP12Namesakes(t *testing.T) {
	one, other := namesakes()
	a, b := cellChange(one), cellChange(other)
	if a.Name != b.Name {
		t.Fatalf("the names are %d and %d", a.Name, b.Name)
	}
	mustBeChanges(t, a, b)
	mustBeChanges(t, b, a, b)
}

// P12: a ChCell whose bytes are of no node, or that has none, though its name is theirs.
func TestP12CellsOfNoNodes(t *testing.T) {
	mustBeNoChange(t, namedChange(chCell, 0))
	mustBeNoChange(t, namedChange(chCell, 5))
	mustBeNoChange(t, namedChange(chCell, -1))
	mustBeNoChange(t, namedChange(chCell, nameOfNode(leafOf("y"))))
	for _, n := range nodesToBend() {
		for _, b := range noNodes(n) {
			mustBeNoChange(t, impl.Change{Kind: chCell, Name: impl.NameOf(b), Bytes: b})
			mustBeNoChange(t, impl.Change{Kind: chCell, Name: nameOfNode(n), Bytes: b})
			mustBeNoChange(t, impl.Change{Kind: chCell, Bytes: b})
		}
	}
	for _, size := range []int{160, 161, 255, 256, 257, 65535, 65536, 65536 + 5} {
		b := append(bytesOf(leafOf("y")), make([]byte, size-5)...)
		mustBeNoChange(t, impl.Change{Kind: chCell, Name: impl.NameOf(b), Bytes: b})
		mustBeNoChange(t, impl.Change{Kind: chCell, Name: nameOfNode(leafOf("y")), Bytes: b})
	}
}

// P12: a ChCell whose name is not that of its bytes.
func TestP12CellsOfOtherNames(t *testing.T) {
	for _, n := range append(rightNodes(), selfNamed()) {
		c := cellChange(n)
		b := c.Bytes
		for _, name := range []int64{0, 1, -1, -c.Name, ^c.Name, c.Name + 1, c.Name - 1, c.Name + 1<<31, c.Name - 1<<31, c.Name ^ -1<<63, c.Name & (1<<32 - 1), c.Name >> 8,
			math.MaxInt64, math.MinInt64, impl.NameOf(nil), impl.NameOf(b[1:]), impl.NameOf(b[:len(b)-1]), impl.NameOf(append([]byte{byte(len(b)), 0}, b...)), nameOfNode(leafOf("other"))} {
			other := c
			other.Name = name
			mustBeNoChange(t, other)
		}
		mustBeChanges(t, c)
	}
}

// P12: a change of another kind has no bytes; nothing and nil are the same.
func TestP12OthersHaveNoBytes(t *testing.T) {
	cell := cellChange(leafOf("y"))
	for _, kind := range otherKinds() {
		for _, name := range []int64{0, 5, cell.Name, math.MaxInt64} {
			for _, b := range [][]byte{{0}, {1}, cell.Bytes, impl.NameBytes(name), make([]byte, 256), make([]byte, 65536)} {
				mustBeNoChange(t, impl.Change{Kind: kind, Name: name, Bytes: b})
			}
			mustBeChanges(t, impl.Change{Kind: kind, Name: name, Bytes: []byte{}})
			mustBeChanges(t, impl.Change{Kind: kind, Name: name, Bytes: make([]byte, 0, 9)})
		}
	}
	if impl.ChangeOk(impl.Change{}) {
		t.Fatal("the zero Change is right")
	}
}

// P12: one change that is not right, at each place of a list, and nothing is made of all of it.
func TestP12OneIsNotRight(t *testing.T) {
	leaf := bytesOf(leafOf("y"))
	bad := []impl.Change{{}, {Kind: 12}, {Kind: -1}, {Kind: 256 + 3}, {Kind: 3, Name: -1}, {Kind: 3, Bytes: leaf}, {Kind: 1, Name: impl.NameOf(leaf) + 1, Bytes: leaf}, {Kind: 1, Name: impl.NameOf(nil)}}
	for _, right := range [][]impl.Change{oneOfEach(), manyOfAll(maxChanges)} {
		for i := range right {
			for _, c := range bad {
				list := slices.Clone(right)
				list[i] = c
				mustMakeNothing(t, list...)
				mustTell(t, changesBytesOf(list...))
			}
		}
	}
}

// P12: 200 changes are right, and one more is not, nor any number that begins anew in two bytes.
func TestP12Limit(t *testing.T) {
	for _, c := range append(oneOfEach(), namedChange(2, 0), cellChange(leafOf("y")), cellChange(widestNode())) {
		mustBeChanges(t, slices.Repeat([]impl.Change{c}, 199)...)
		mustBeChanges(t, slices.Repeat([]impl.Change{c}, 200)...)
		for _, count := range []int{201, 202, 255, 256, 257, 300, 456, 511, 512, 1000} {
			list := slices.Repeat([]impl.Change{c}, count)
			mustMakeNothing(t, list...)
			mustTellNothing(t, changesBytesOf(list...))
		}
	}
	for _, count := range []int{65535, 65536, 65537, 65536 + 200} {
		list := slices.Repeat([]impl.Change{namedChange(2, 5)}, count)
		mustMakeNothing(t, list...)
		mustTellNothing(t, changesBytesOf(list...))
	}
	mustMakeNothing(t, manyOfAll(maxChanges+1)...)
	mustTellNothing(t, changesBytesOf(manyOfAll(maxChanges+1)...))
	mustMakeNothing(t, make([]impl.Change, maxChanges+1)...)
}

// P12: bytes that tell another number of changes than there are: one more, one fewer, and each other one.
func TestP12OtherCounts(t *testing.T) {
	for _, list := range someChanges() {
		b := changesBytesOf(list...)
		for count := range 1 << 16 {
			if count == len(list) {
				continue
			}
			binary.LittleEndian.PutUint16(b, uint16(count))
			if got, is := impl.ChangesFrom(b); is || len(got) != 0 {
				t.Fatalf("ChangesFrom of %d changes that are told to be %d = %v, %v, want nothing, false", len(list), count, got, is)
			}
		}
		if swapped := changesBytesOf(list...); swapped[0] != swapped[1] {
			swapped[0], swapped[1] = swapped[1], swapped[0]
			mustTellNothing(t, swapped)
		}
	}
	mustTell(t, []byte{0, 0})
	for first := range 256 {
		mustTellNothing(t, []byte{byte(first)})
		if first > 0 {
			mustTellNothing(t, []byte{byte(first), 0})
			mustTellNothing(t, []byte{0, byte(first)})
		}
	}
}

// P12: each number of bytes torn off, from one to all; of very many bytes only some of these numbers.
func TestP12TornOff(t *testing.T) {
	for _, list := range someChanges() {
		b := changesBytesOf(list...)
		for size := range b {
			if len(b)-size > 700 && size%101 > 0 {
				continue
			}
			mustTellNothing(t, b[:size]) // the rest lies in the spare room
			mustTellNothing(t, slices.Clip(b[:size]))
			mustTell(t, b[len(b)-size:])
		}
	}
	mustTellNothing(t, nil)
	mustTellNothing(t, []byte{})
}

// P12: bytes too many, behind all changes and ahead of them, right changes among these.
func TestP12BytesTooMany(t *testing.T) {
	for _, list := range someChanges() {
		b := changesBytesOf(list...)
		for _, more := range [][]byte{{0}, {1}, {2}, {11}, {255}, {0, 0}, make([]byte, 9), changeBytesOf(namedChange(2, 0)), changeBytesOf(oneOfEach()[0]), b, make([]byte, 5000)} {
			mustTellNothing(t, slices.Concat(b, more))
			mustTell(t, slices.Concat(more, b))
			mustTell(t, slices.Concat(b[:2], more, b[2:]))
		}
	}
}

// P12: a byte changed in each place, in each way that a byte can be: of what is told just these bytes are made.
func TestP12EachByteChanged(t *testing.T) {
	told, not := 0, 0
	for _, list := range shortChanges() {
		b := changesBytesOf(list...)
		for place, right := range b {
			for c := range 256 {
				b[place] = byte(c)
				if mustTell(t, b) {
					told++
				} else {
					not++
				}
			}
			b[place] = right
		}
	}
	if told < 10000 || not < 10000 {
		t.Fatalf("%d are told, %d are not", told, not)
	}
	b := changesBytesOf(manyOfAll(maxChanges)...)
	for place := range b {
		b[place] ^= 1 << (place % 8)
		mustTell(t, b)
		b[place] ^= 1 << (place % 8)
	}
}

// P12: a name whose eighth byte is 128 or more is none, of each kind; all other bytes are told.
func TestP12EighthByte(t *testing.T) {
	for _, kind := range otherKinds() {
		for c := range 256 {
			for _, low := range []byte{0, 255} {
				name := append(bytes.Repeat([]byte{low}, 7), byte(c))
				one := slices.Concat([]byte{1, 0, byte(kind)}, name)
				among := slices.Concat([]byte{3, 0}, changeBytesOf(oneOfEach()[0]), one[2:], changeBytesOf(oneOfEach()[5]))
				for _, b := range [][]byte{one, among} {
					if mustTell(t, b) != (c < 128) {
						t.Fatalf("ChangesFrom(%v) does not ask for the eighth byte %d", b, c)
					}
				}
			}
		}
	}
}

// P12: a ChCell's number of bytes that is one too great, one too small, or any other: also where as many bytes lie behind it.
func TestP12CellsOfOtherLengths(t *testing.T) {
	for _, n := range nodesToBend() {
		cell := cellChange(n)
		size := len(cell.Bytes)
		for _, behind := range [][]byte{nil, {0}, changeBytesOf(namedChange(2, 0)), changeBytesOf(cell), make([]byte, 9)} {
			for count := uint16(1); count <= 3; count++ {
				b := slices.Concat(binary.LittleEndian.AppendUint16(nil, count), changeBytesOf(cell), behind)
				for told := range 600 {
					binary.LittleEndian.PutUint16(b[3:], uint16(told))
					if is := mustTell(t, b); is && told != size {
						t.Fatalf("ChangesFrom(%v) is told, with a cell of %d bytes instead of %d", b, told, size)
					}
				}
				binary.LittleEndian.PutUint16(b[3:], 65535)
				mustTellNothing(t, b)
				b[3], b[4] = 0, byte(size)
				mustTellNothing(t, b)
			}
		}
		for _, told := range []int{size - 1, size + 1} {
			b := changesBytesOf(cell)
			binary.LittleEndian.PutUint16(b[3:], uint16(told))
			mustTellNothing(t, b)
			mustTellNothing(t, append(b, 0))
			mustTellNothing(t, b[:len(b)-1])
			mustTellNothing(t, append(b[:len(b)-1], 0, 0))
		}
	}
}

// P12: a ChCell in the bytes whose bytes are of no node.
func TestP12NoNodesInTheBytes(t *testing.T) {
	for _, n := range nodesToBend() {
		for _, b := range noNodes(n) {
			c := impl.Change{Kind: chCell, Name: impl.NameOf(b), Bytes: b}
			mustTellNothing(t, changesBytesOf(c))
			mustTellNothing(t, changesBytesOf(oneOfEach()[0], c, oneOfEach()[4]))
		}
	}
}

// bentChanges are the bytes of a drawn list, often bent in one place or in two, and often telling another number of changes.
func bentChanges(r *rand.Rand) []byte {
	b := changesBytesOf(drawnChanges(r, 5)...)
	for range max(0, r.Intn(5)-2) {
		b = bentBytes(r, b, changeBytesOf(drawnChange(r)))
	}
	if len(b) > 0 && r.Intn(4) == 0 {
		b[0] += byte(r.Intn(3)) - 1
	}
	return b
}

// P12, from the bytes' side: of drawn and of bent bytes just those are told that ChangesBytes makes of what is told.
func TestP12BentDraws(t *testing.T) {
	r := rand.New(rand.NewSource(125))
	told, not := 0, 0
	for range 30000 {
		if mustTell(t, bentChanges(r)) {
			told++
		} else {
			not++
		}
	}
	if told < 10000 || not < 10000 {
		t.Fatalf("%d are told, %d are not", told, not)
	}
}

// strangeChange is a change that is often not right, in one part or in more.
func strangeChange(r *rand.Rand) impl.Change {
	c := drawnChange(r)
	switch r.Intn(5) {
	case 0:
		c.Kind = int64(r.Intn(16)) - 2
	case 1:
		c.Kind += int64(r.Intn(3)-1) << 8
	case 2:
		c.Name = int64(r.Uint64()) >> r.Intn(64)
	case 3:
		c.Bytes = drawnBytes(r, 12)
	}
	return c
}

// P19: whatever the changes and the bytes are, there is an answer, and it is what the document's words tell.
func TestP19ChangesAnswerAlways(t *testing.T) {
	r := rand.New(rand.NewSource(126))
	right, wrong := 0, 0
	for range 20000 {
		list := make([]impl.Change, r.Intn(4))
		all := true
		for i := range list {
			list[i] = strangeChange(r)
			is := rightByWords(list[i])
			if impl.ChangeOk(list[i]) != is {
				t.Fatalf("ChangeOk(%v) is %v", list[i], !is)
			}
			all = all && is
		}
		mustTell(t, changesBytesOf(list...))
		mustTell(t, drawnBytes(r, 40))
		if all {
			right++
			mustBeChanges(t, list...)
			continue
		}
		wrong++
		mustMakeNothing(t, list...)
	}
	if right < 3000 || wrong < 3000 {
		t.Fatalf("%d lists are right, %d are not", right, wrong)
	}
	for _, b := range [][]byte{make([]byte, 1<<20), bytes.Repeat([]byte{255}, 1<<20), bytes.Repeat([]byte{1}, 1<<20), slices.Concat([]byte{200, 0}, bytes.Repeat([]byte{1, 255, 255}, 1<<18))} {
		mustTell(t, b)
	}
	mustMakeNothing(t, make([]impl.Change, 1<<20)...)
}

// changeArgs are lists of changes, right ones and others.
func changeArgs() [][]impl.Change {
	r := rand.New(rand.NewSource(127))
	leaf := bytesOf(leafOf("y"))
	lists := append(someChanges(), manyOfAll(maxChanges+1), []impl.Change{{}}, []impl.Change{{Kind: 12, Bytes: leaf}}, []impl.Change{{Kind: 3, Name: -1}, {Kind: 3, Bytes: leaf}}, []impl.Change{{Kind: 1, Name: 7, Bytes: leaf}, {Kind: 1}})
	for range 200 {
		list := drawnChanges(r, 5)
		lists = append(lists, append(list, strangeChange(r)))
	}
	return lists
}

// changesAnswers is what the functions that take changes answer, in a text; nothing and nil are the same there.
func changesAnswers(list []impl.Change) string {
	oks := []bool{}
	for _, c := range list {
		oks = append(oks, impl.ChangeOk(c))
	}
	b, is := impl.ChangesBytes(list)
	return fmt.Sprintln(oks, b, is)
}

// P19: a list and its bytes stay, and so does the spare room behind each of them; no answer depends on that room.
func TestP19ChangesLeaveTheirArguments(t *testing.T) {
	for _, list := range changeArgs() {
		want := changesAnswers(changeLists.clone(list))
		changeLists.mustLeave(t, list, oneOfEach(), func(arg []impl.Change) {
			if got := changesAnswers(arg); got != want {
				t.Fatalf("of %v with spare room: %s, without: %s", list, got, want)
			}
		})
	}
}

// P19: bytes stay, and so does the spare room behind them, also where what was torn off lies there.
func TestP19ChangesFromLeavesItsArgument(t *testing.T) {
	for _, list := range changeArgs() {
		b := changesBytesOf(list...)
		for _, spare := range [][]byte{spareBytes, changeBytesOf(namedChange(2, 0)), changeBytesOf(oneOfEach()[0])} {
			mustStay(t, b, spare, func(arg []byte) { mustTell(t, arg) })
		}
		for size := range min(len(b), 300) {
			mustStay(t, b[:size], b[size:], func(arg []byte) { mustTellNothing(t, arg) })
		}
	}
}

// P19: the bytes that are made are new memory: they stay when the list is written into, and it when they are.
func TestP19ChangesBytesAreNewMemory(t *testing.T) {
	for _, list := range changeArgs() {
		arg := changeLists.clone(list)
		mustBeNew(t, func() []byte {
			b, _ := impl.ChangesBytes(arg)
			return b
		})
		if !changeLists.alike(arg, list) {
			t.Fatalf("the list %v is %v once its bytes are written into", list, arg)
		}
		b, _ := impl.ChangesBytes(arg)
		want := bytes.Clone(b)
		changeLists.spoil(arg)
		if !bytes.Equal(b, want) {
			t.Fatalf("the bytes of %v are %v once it is written into, want %v", list, b, want)
		}
	}
}

// P19: the changes that are told are new memory, the Bytes of each by itself: none shares any with the argument, another change or another answer, spare room included.
func TestP19ChangesAreNewMemory(t *testing.T) {
	for _, list := range append(changeArgs(), slices.Repeat([]impl.Change{oneOfEach()[0]}, 20)) {
		b := changesBytesOf(list...)
		arg := slices.Concat(b, spareBytes)
		before := bytes.Clone(arg)
		changeLists.mustBeNew(t, func() []impl.Change {
			told, _ := impl.ChangesFrom(arg[:len(b)])
			return told
		})
		if !bytes.Equal(arg, before) {
			t.Fatalf("the changes in %v share memory with it", b)
		}
		told, _ := impl.ChangesFrom(arg[:len(b)])
		want := changeLists.clone(told)
		spoil(arg)
		if !changeLists.alike(told, want) {
			t.Fatalf("the changes %v are %v once their bytes are written into", want, told)
		}
	}
}

// P19: nothing can be put behind the Bytes of a change into the room of another one.
func TestP19ChangesGrowApart(t *testing.T) {
	for _, list := range someChanges() {
		b := changesBytesOf(list...)
		got, _ := impl.ChangesFrom(b)
		for i := range got {
			_ = append(got[i].Bytes, spareBytes...)
		}
		if !changeLists.alike(got, list) || !bytes.Equal(b, changesBytesOf(list...)) {
			t.Fatalf("the changes %v are %v once their Bytes are written on", list, got)
		}
	}
}

// P19: what is told of a list depends on no other call.
func TestP19ChangesOfOtherTimes(t *testing.T) {
	lists := someChanges()
	for i, list := range lists {
		b, _ := impl.ChangesBytes(list)
		told, _ := impl.ChangesFrom(b)
		impl.ChangesBytes(lists[(i+1)%len(lists)])
		impl.ChangesFrom(changesBytesOf(lists[(i+2)%len(lists)]...))
		mustMakeNothing(t, impl.Change{})
		mustTellNothing(t, b[1:])
		if !bytes.Equal(b, changesBytesOf(list...)) || !changeLists.alike(told, list) {
			t.Fatalf("%v is %v, told as %v, behind other calls", list, b, told)
		}
		mustBeChanges(t, list...)
	}
}
