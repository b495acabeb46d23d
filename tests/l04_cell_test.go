package tests

import (
	"bytes"
	"cmp"
	"fmt"
	"math"
	"math/rand"
	"slices"
	"testing"

	"loop.example/g00754/impl"
)

const maxCells = 80

// cellOf is the Cell of a right node, written out with nothing of the program but NameOf.
func cellOf(n impl.Node) impl.Cell {
	b := bytesOf(n)
	return impl.Cell{Name: impl.NameOf(b), Bytes: b}
}

func nameOfNode(n impl.Node) int64 {
	return cellOf(n).Name
}

// cellsOfNodes are the Cells of these nodes, by name, one of each.
func cellsOfNodes(nodes ...impl.Node) []impl.Cell {
	cells := []impl.Cell{}
	for _, n := range nodes {
		cells = append(cells, cellOf(n))
	}
	sortCells(cells)
	return slices.CompactFunc(cells, sameCell)
}

func sortCells(cells []impl.Cell) {
	slices.SortFunc(cells, func(a, b impl.Cell) int { return cmp.Compare(a.Name, b.Name) })
}

func sameCell(a, b impl.Cell) bool {
	return a.Name == b.Name && bytes.Equal(a.Bytes, b.Bytes)
}

var cellLists = holding[impl.Cell]{bytes: func(c *impl.Cell) *[]byte { return &c.Bytes }, same: sameCell}

func sameCells(a, b []impl.Cell) bool          { return cellLists.alike(a, b) }
func cloneCells(cells []impl.Cell) []impl.Cell { return cellLists.clone(cells) }
func spoilCells(cells []impl.Cell)             { cellLists.spoil(cells) }

// numberedLeaf is the leaf of that number; no two are alike.
func numberedLeaf(i int) impl.Node {
	return leafOf("v", int64(i)/256, int64(i)/16%16, int64(i)%16)
}

func numberedLeaves(count int) []impl.Node {
	nodes := []impl.Node{}
	for i := range count {
		nodes = append(nodes, numberedLeaf(i))
	}
	return nodes
}

// sampleNodes is a tree made by hand, from its leaves up to its root: 1a=x, 1ab=y, 2=z and 3=z, so that z is a Kid twice.
func sampleNodes() []impl.Node {
	y, z := leafOf("y"), leafOf("z")
	one := forkOf("x", impl.Kid{At: 11, Name: nameOfNode(y)})
	a := stemOf(nameOfNode(one), 10)
	root := forkOf("", impl.Kid{At: 1, Name: nameOfNode(a)}, impl.Kid{At: 2, Name: nameOfNode(z)}, impl.Kid{At: 3, Name: nameOfNode(z)})
	return []impl.Node{y, z, one, a, root}
}

// selfNamed is a stem whose Kid is itself: its bytes were searched for, so that their name is the one they hold.
func selfNamed() impl.Node {
	return stemOf(31374821914822834, 2, 8, 3)
}

// namesakes are two nodes that are not alike, with one name; they were searched for, too.
func namesakes() (impl.Node, impl.Node) {
	return stemOf(3867907498894138976, 1), stemOf(4851345058006983585, 1)
}

func someCells() [][]impl.Cell {
	return [][]impl.Cell{
		nil, {}, cellsOfNodes(leafOf("a")), cellsOfNodes(sampleNodes()...), cellsOfNodes(rightNodes()...),
		cellsOfNodes(selfNamed(), leafOf("a")), cellsOfNodes(numberedLeaves(maxCells - 1)...), cellsOfNodes(numberedLeaves(maxCells)...),
	}
}

// badNodes are not NodeOk.
func badNodes() []impl.Node {
	return []impl.Node{
		{}, {Kind: 4, Value: "a"}, leafOf(""), leafOf("A"), leafOf("a", 16), leafOf("a", 1, 2, 3, 4, 5, 6, 7, 8, 9), leafOf("abcdefghij012"),
		stemOf(0, 1), stemOf(5), stemOf(5, -1), forkOf(""), forkOf("a"), forkOf("", kidsAt(1)...), forkOf("a", kidsAt(2, 2)...), forkOf("a", kidsAt(16)...),
	}
}

// mustBeNoCells asks for the fixed answers of the chapter.
func mustBeNoCells(t *testing.T, cells []impl.Cell) {
	t.Helper()
	if impl.CellsOk(cells) {
		t.Fatalf("CellsOk(%v) is true", cells)
	}
	names := []int64{0, 1, -1, math.MaxInt64, math.MinInt64}
	for _, c := range cells {
		names = append(names, c.Name, impl.NameOf(c.Bytes))
	}
	for _, name := range names {
		if n, is := impl.NodeAt(cells, name); is || !sameNode(n, impl.Node{}) {
			t.Fatalf("NodeAt(%v, %d) = %v, %v, want the zero Node, false", cells, name, n, is)
		}
		if got, is := impl.Without(cells, name); is || len(got) != 0 {
			t.Fatalf("Without(%v, %d) = %v, %v, want nothing, false", cells, name, got, is)
		}
		if got, is := impl.ReachOf(cells, []int64{name}); is || len(got) != 0 {
			t.Fatalf("ReachOf(%v, %d) = %v, %v, want nothing, false", cells, name, got, is)
		}
	}
	if got, is := impl.ReachOf(cells, nil); is || len(got) != 0 {
		t.Fatalf("ReachOf(%v, none) = %v, %v, want nothing, false", cells, got, is)
	}
	for _, n := range append(sampleNodes(), impl.Node{}, leafOf(""), leafOf("a")) {
		if got, name := impl.WithNode(cells, n); name != -1 || len(got) != 0 {
			t.Fatalf("WithNode(%v, %v) = %v, %d, want nothing, -1", cells, n, got, name)
		}
	}
}

// mustHold asks for just these nodes, each under its name.
func mustHold(t *testing.T, cells []impl.Cell, nodes ...impl.Node) {
	t.Helper()
	if want := cellsOfNodes(nodes...); !sameCells(cells, want) {
		t.Fatalf("the cells are %v, want %v", cells, want)
	}
	if !impl.CellsOk(cells) {
		t.Fatalf("CellsOk(%v) is false", cells)
	}
	for _, n := range nodes {
		if got, is := impl.NodeAt(cells, nameOfNode(n)); !is || !sameNode(got, n) {
			t.Fatalf("NodeAt(%v, the name of %v) = %v, %v", cells, n, got, is)
		}
	}
}

// mustStayAs asks that a node can't be put.
func mustStayAs(t *testing.T, cells []impl.Cell, n impl.Node) {
	t.Helper()
	if got, name := impl.WithNode(cells, n); name != -1 || !sameCells(got, cells) {
		t.Fatalf("WithNode(%v, %v) = %v, %d, want them as they are, -1", cells, n, got, name)
	}
}

func mustReach(t *testing.T, cells []impl.Cell, roots, want []int64, whole bool) {
	t.Helper()
	want = slices.Clone(want)
	slices.Sort(want)
	if got, is := impl.ReachOf(cells, roots); is != whole || !slices.Equal(got, want) {
		t.Fatalf("ReachOf(%v, %v) = %v, %v, want %v, %v", cells, roots, got, is, want, whole)
	}
}

func TestMaxCells(t *testing.T) {
	if impl.MaxCells != maxCells {
		t.Errorf("MaxCells = %d, want %d", impl.MaxCells, maxCells)
	}
}

// P4, by hand: a node is put under its name, found there, and taken away again; the others stay.
func TestP4PutFoundAndTaken(t *testing.T) {
	var cells []impl.Cell
	nodes := sampleNodes()
	for i, n := range nodes {
		next, name := impl.WithNode(cells, n)
		if name != nameOfNode(n) {
			t.Fatalf("WithNode tells the name %d of %v, want %d", name, n, nameOfNode(n))
		}
		mustHold(t, next, nodes[:i+1]...)
		mustHold(t, cells, nodes[:i]...)
		cells = next
	}
	for i, n := range nodes {
		next, is := impl.Without(cells, nameOfNode(n))
		if !is {
			t.Fatalf("Without tells that %v is not there", n)
		}
		mustHold(t, next, nodes[i+1:]...)
		if got, is := impl.NodeAt(next, nameOfNode(n)); is || !sameNode(got, impl.Node{}) {
			t.Fatalf("%v is found once it is taken away", got)
		}
		cells = next
	}
}

// P4: of right nodes of each kind, each is put, found and taken, wherever its name stands among the others.
func TestP4EachOfMany(t *testing.T) {
	nodes := rightNodes()
	all := cellsOfNodes(nodes...)
	mustHold(t, all, nodes...)
	for i, n := range nodes {
		others := slices.Delete(slices.Clone(nodes), i, i+1)
		less, is := impl.Without(all, nameOfNode(n))
		if !is {
			t.Fatalf("%v is not there", n)
		}
		mustHold(t, less, others...)
		again, name := impl.WithNode(less, n)
		if name != nameOfNode(n) {
			t.Fatalf("the name of %v is %d", n, name)
		}
		mustHold(t, again, nodes...)
	}
}

// P4: draws of putting and taking, held against the nodes that must be there.
func TestP4Draws(t *testing.T) {
	r := rand.New(rand.NewSource(41))
	for range 6 {
		var cells []impl.Cell
		there := []impl.Node{}
		for step := range 250 {
			n := drawnNode(r)
			if len(there) > 0 && r.Intn(4) == 0 {
				n = there[r.Intn(len(there))]
			}
			at := slices.IndexFunc(there, func(m impl.Node) bool { return sameNode(m, n) })
			if r.Intn(5) > 0 {
				next, name := impl.WithNode(cells, n)
				switch {
				case at < 0 && len(there) == maxCells:
					if name != -1 {
						t.Fatalf("%v is put behind %d others", n, maxCells)
					}
				case name != nameOfNode(n):
					t.Fatalf("WithNode tells the name %d of %v", name, n)
				case at < 0:
					there = append(there, n)
				}
				cells = next
			} else {
				next, is := impl.Without(cells, nameOfNode(n))
				if is != (at >= 0) {
					t.Fatalf("Without(%v) = %v", n, is)
				}
				if is {
					there = slices.Delete(there, at, at+1)
				}
				cells = next
			}
			if step%25 == 24 {
				mustHold(t, cells, there...)
			} else if want := cellsOfNodes(there...); !sameCells(cells, want) {
				t.Fatalf("the cells are %v, want %v", cells, want)
			}
		}
	}
}

// P4: in whatever order they are put, the cells are the same.
func TestP4AnyOrder(t *testing.T) {
	r := rand.New(rand.NewSource(42))
	nodes := rightNodes()
	for range 30 {
		r.Shuffle(len(nodes), func(i, k int) { nodes[i], nodes[k] = nodes[k], nodes[i] })
		var cells []impl.Cell
		for _, n := range nodes {
			cells, _ = impl.WithNode(cells, n)
		}
		mustHold(t, cells, nodes...)
	}
}

// P4: with no cells nothing is there, and they are right.
func TestP4NoCells(t *testing.T) {
	for _, cells := range [][]impl.Cell{nil, {}} {
		if !impl.CellsOk(cells) {
			t.Fatal("CellsOk of none is false")
		}
		for _, name := range []int64{0, 1, -1, nameOfNode(leafOf("a")), math.MaxInt64, math.MinInt64} {
			if n, is := impl.NodeAt(cells, name); is || !sameNode(n, impl.Node{}) {
				t.Fatalf("NodeAt(none, %d) = %v, %v", name, n, is)
			}
			if got, is := impl.Without(cells, name); is || len(got) != 0 {
				t.Fatalf("Without(none, %d) = %v, %v", name, got, is)
			}
		}
		for _, n := range badNodes() {
			mustStayAs(t, cells, n)
		}
		mustReach(t, cells, nil, nil, true)
		mustReach(t, cells, []int64{0}, nil, true)
		mustReach(t, cells, []int64{9}, []int64{9}, false)
	}
}

// P4: Names that fall or are alike, at each place.
func TestP4NamesRise(t *testing.T) {
	cells := cellsOfNodes(sampleNodes()...)
	for i := range len(cells) - 1 {
		bent := cloneCells(cells)
		bent[i], bent[i+1] = bent[i+1], bent[i]
		mustBeNoCells(t, bent)
		mustBeNoCells(t, bent[i:i+2])
	}
	for i := range cells {
		mustBeNoCells(t, slices.Insert(cloneCells(cells), i, cells[i]))
		mustBeNoCells(t, []impl.Cell{cells[i], cells[i]})
	}
	bent := cloneCells(cells)
	slices.Reverse(bent)
	mustBeNoCells(t, bent)
	mustBeNoCells(t, append(cloneCells(cells), cells[0]))
}

// P4: a Name that is not NameOf the Bytes, at each place, also where the Names still rise.
func TestP4NamesAreOfTheBytes(t *testing.T) {
	cells := cellsOfNodes(sampleNodes()...)
	for i := range cells {
		for _, name := range []int64{cells[i].Name - 1, cells[i].Name + 1, 0, -1, 1, -cells[i].Name, math.MaxInt64, math.MinInt64} {
			bent := cloneCells(cells)
			bent[i].Name = name
			mustBeNoCells(t, bent)
			mustBeNoCells(t, bent[i:i+1])
		}
	}
	swapped := cloneCells(cells)
	swapped[0].Bytes, swapped[1].Bytes = swapped[1].Bytes, swapped[0].Bytes
	mustBeNoCells(t, swapped)
}

// P4: Bytes that are of no Node, cut short, or have more behind them; of right cells alone, under the old name and under that of these bytes.
func TestP4BytesAreOfANode(t *testing.T) {
	cells := cellsOfNodes(sampleNodes()...)
	for i := range cells {
		b := cells[i].Bytes
		bents := [][]byte{nil, {0}, {1}, {4, 0, 1, 'a', 0}, bytes.Repeat([]byte{255}, 70000), slices.Concat(b, []byte{0}), slices.Concat(b, b), slices.Concat([]byte{0}, b)}
		for size := range b {
			bents = append(bents, b[:size], b[size+1:])
		}
		for _, n := range badNodes() {
			if len(n.Path) < 250 {
				bents = append(bents, bytesOf(n))
			}
		}
		for _, bent := range bents {
			if n, is := impl.NodeFrom(bent); is {
				t.Fatalf("%v are of the node %v", bent, n)
			}
			mustBeNoCells(t, []impl.Cell{{Name: impl.NameOf(bent), Bytes: bent}})
			mustBeNoCells(t, []impl.Cell{{Name: cells[i].Name, Bytes: bent}})
			among := cloneCells(cells)
			among[i].Bytes = bent
			mustBeNoCells(t, among)
			among[i].Name = impl.NameOf(bent)
			sortCells(among)
			mustBeNoCells(t, among)
		}
	}
	mustBeNoCells(t, make([]impl.Cell, 1))
	mustBeNoCells(t, make([]impl.Cell, maxCells))
}

// P4: MaxCells cells and one more.
func TestP4MaxCells(t *testing.T) {
	for _, count := range []int{maxCells - 1, maxCells} {
		mustHold(t, cellsOfNodes(numberedLeaves(count)...), numberedLeaves(count)...)
	}
	for _, count := range []int{maxCells + 1, maxCells + 2, 256, 336, 1000} {
		mustBeNoCells(t, cellsOfNodes(numberedLeaves(count)...))
	}
}

// P4: up to MaxCells nodes are put; one more is not, but those that are there are told, and room is made again.
func TestP4Full(t *testing.T) {
	nodes := numberedLeaves(maxCells)
	var cells []impl.Cell
	for _, n := range nodes {
		next, name := impl.WithNode(cells, n)
		if name != nameOfNode(n) || len(next) != len(cells)+1 {
			t.Fatalf("%v is not put into %d cells", n, len(cells))
		}
		cells = next
	}
	mustHold(t, cells, nodes...)
	for _, n := range append(append(sampleNodes(), numberedLeaf(maxCells), selfNamed()), badNodes()...) {
		mustStayAs(t, cells, n)
	}
	for i, n := range nodes {
		if got, name := impl.WithNode(cells, n); name != nameOfNode(n) || !sameCells(got, cells) {
			t.Fatalf("WithNode of %v, which is there, tells %d", n, name)
		}
		less, _ := impl.Without(cells, nameOfNode(n))
		more, name := impl.WithNode(less, numberedLeaf(maxCells))
		if name != nameOfNode(numberedLeaf(maxCells)) {
			t.Fatalf("WithNode tells %d once there is room", name)
		}
		mustHold(t, more, append(slices.Delete(slices.Clone(nodes), i, i+1), numberedLeaf(maxCells))...)
	}
}

// P4: a node that is there already.
func TestP4ThereAlready(t *testing.T) {
	nodes := rightNodes()
	cells := cellsOfNodes(nodes...)
	for _, n := range nodes {
		for _, empty := range [][]int64{nil, {}} {
			if len(n.Path) == 0 {
				n.Path = empty
			}
			if got, name := impl.WithNode(cells, n); name != nameOfNode(n) || !sameCells(got, cells) {
				t.Fatalf("WithNode of %v, which is there, tells %d and %v", n, name, got)
			}
		}
	}
}

// P4: what is not NodeOk is not put.
func TestP4NoNodes(t *testing.T) {
	for _, cells := range someCells() {
		for _, n := range badNodes() {
			mustStayAs(t, cells, n)
		}
	}
}

// P4: names that are not there, 0, below 0, and beside those that are there.
func TestP4NamesThatAreNotThere(t *testing.T) {
	for _, cells := range someCells() {
		names := []int64{0, 1, -1, 2, math.MaxInt64, math.MinInt64, nameOfNode(leafOf("nothere")), impl.NameOf(nil)}
		for _, c := range cells {
			names = append(names, c.Name-1, c.Name+1, -c.Name)
		}
		for _, name := range names {
			if n, is := impl.NodeAt(cells, name); is || !sameNode(n, impl.Node{}) {
				t.Fatalf("NodeAt(%v, %d) = %v, %v", cells, name, n, is)
			}
			if got, is := impl.Without(cells, name); is || !sameCells(got, cells) {
				t.Fatalf("Without(%v, %d) = %v, %v, want them as they are, false", cells, name, got, is)
			}
		}
	}
}

// P4: a name tells its node, so a node with a name that is taken is held to be there.
func TestP4Namesakes(t *testing.T) {
	a, b := namesakes()
	if nameOfNode(a) != nameOfNode(b) || bytes.Equal(bytesOf(a), bytesOf(b)) {
		t.Fatal("these are no namesakes")
	}
	cells, _ := impl.WithNode(cellsOfNodes(leafOf("a")), a)
	got, name := impl.WithNode(cells, b)
	if name != nameOfNode(a) {
		t.Fatalf("WithNode tells the name %d, want %d", name, nameOfNode(a))
	}
	mustHold(t, got, leafOf("a"), a)
	both := []impl.Cell{cellOf(a), cellOf(b)}
	mustBeNoCells(t, both)
}

// P4: what is reached in a tree made by hand, from each of its nodes and from several.
func TestP4ReachByHand(t *testing.T) {
	nodes := sampleNodes()
	cells := cellsOfNodes(append(nodes, leafOf("alone"))...)
	names := []int64{}
	for _, n := range nodes {
		names = append(names, nameOfNode(n))
	}
	y, z, one, a, root := names[0], names[1], names[2], names[3], names[4]
	alone := nameOfNode(leafOf("alone"))
	for _, c := range []struct{ roots, want []int64 }{
		{nil, nil},
		{[]int64{0}, nil},
		{[]int64{0, 0, 0}, nil},
		{[]int64{y}, []int64{y}},
		{[]int64{z}, []int64{z}},
		{[]int64{one}, []int64{y, one}},
		{[]int64{a}, []int64{y, one, a}},
		{[]int64{root}, names},
		{[]int64{root, root}, names},
		{[]int64{0, root, 0, root, 0}, names},
		{[]int64{y, root}, names},
		{[]int64{root, y}, names},
		{[]int64{a, z, one, y}, []int64{y, z, one, a}},
		{[]int64{alone}, []int64{alone}},
		{[]int64{alone, a}, []int64{alone, y, one, a}},
		{[]int64{alone, 0, root}, append([]int64{alone}, names...)},
	} {
		mustReach(t, cells, c.roots, c.want, true)
	}
}

// P4: roots that are not there, also below 0, are among what is reached, and tell that it is not whole.
func TestP4RootsThatAreNotThere(t *testing.T) {
	nodes := sampleNodes()
	cells := cellsOfNodes(nodes...)
	y := nameOfNode(nodes[0])
	for _, cells := range [][]impl.Cell{nil, cells} {
		for _, name := range []int64{1, 5, -1, -7, math.MaxInt64, math.MinInt64} {
			mustReach(t, cells, []int64{name}, []int64{name}, false)
			mustReach(t, cells, []int64{name, 0, name}, []int64{name}, false)
		}
		mustReach(t, cells, []int64{9, -9, 4, -4}, []int64{-9, -4, 4, 9}, false)
	}
	mustReach(t, cells, []int64{5, y}, []int64{5, y}, false)
	mustReach(t, cells, []int64{y, 5}, []int64{5, y}, false)
}

// P4: a Kid that is not there, at the end of the way or in the midst of it; what lies behind it is not reached.
func TestP4KidsThatAreNotThere(t *testing.T) {
	nodes := sampleNodes()
	names := []int64{}
	for _, n := range nodes {
		names = append(names, nameOfNode(n))
	}
	y, z, one, a, root := names[0], names[1], names[2], names[3], names[4]
	for _, c := range []struct {
		gone int64
		want []int64
	}{
		{y, names},
		{z, names},
		{one, []int64{z, one, a, root}},
		{a, []int64{z, a, root}},
		{root, []int64{root}},
	} {
		cells, is := impl.Without(cellsOfNodes(nodes...), c.gone)
		if !is {
			t.Fatalf("%d is not there", c.gone)
		}
		mustReach(t, cells, []int64{root}, c.want, false)
		mustReach(t, cells, []int64{root, 0, root}, c.want, false)
	}
	far := forkOf("", kidsAt(upTo(16)...)...)
	want := []int64{nameOfNode(far)}
	for _, kid := range far.Kids {
		want = append(want, kid.Name)
	}
	mustReach(t, cellsOfNodes(far), []int64{nameOfNode(far)}, want, false)
}

// P4: Kids that are reached in many ways are told once; the ways double at each step, so none may be gone twice.
func TestP4KidsReachedTwice(t *testing.T) {
	last := leafOf("end")
	nodes := []impl.Node{last}
	for range maxCells - 1 {
		name := nameOfNode(last)
		last = forkOf("", impl.Kid{At: 0, Name: name}, impl.Kid{At: 9, Name: name}, impl.Kid{At: 15, Name: name})
		nodes = append(nodes, last)
	}
	cells := cellsOfNodes(nodes...)
	want := []int64{}
	for i, n := range nodes {
		want = append(want, nameOfNode(n))
		mustReach(t, cells, []int64{nameOfNode(n), nameOfNode(n)}, want[:i+1], true)
	}
}

// P4 and P19: a node that is its own Kid; ReachOf ends.
func TestP4ReachedFromItself(t *testing.T) {
	self := selfNamed()
	name := nameOfNode(self)
	if self.Kids[0].Name != name {
		t.Fatalf("%v is named %d", self, name)
	}
	above := forkOf("q", impl.Kid{At: 3, Name: name})
	cells := cellsOfNodes(self, above, leafOf("a"))
	mustHold(t, cells, self, above, leafOf("a"))
	mustReach(t, cells, []int64{name}, []int64{name}, true)
	mustReach(t, cells, []int64{nameOfNode(above), name}, []int64{nameOfNode(above), name}, true)
}

// P4: MaxCells roots and one more, also where they are alike, or all are 0.
func TestP4MaxRoots(t *testing.T) {
	cells := cellsOfNodes(numberedLeaves(maxCells)...)
	names := []int64{}
	for _, c := range cells {
		names = append(names, c.Name)
	}
	mustReach(t, cells, names, names, true)
	backward := slices.Clone(names)
	slices.Reverse(backward)
	mustReach(t, cells, backward, names, true)
	mustReach(t, cells, make([]int64, maxCells), nil, true)
	mustReach(t, cells, slices.Repeat(names[:1], maxCells), names[:1], true)
	mustReach(t, nil, upTo(maxCells), upTo(maxCells)[1:], false)
	for _, count := range []int64{maxCells + 1, maxCells + 2, 256, 336, 70000} {
		for _, roots := range [][]int64{upTo(count), make([]int64, count), slices.Repeat(names[:1], int(count))} {
			mustReach(t, cells, roots, nil, false)
			mustReach(t, nil, roots, nil, false)
		}
	}
	mustReach(t, cells, append(slices.Clone(names), 0), nil, false)
}

// P4: of drawn nodes, some of which are not there, what is reached is what is found by going on until nothing is new.
func TestP4ReachDraws(t *testing.T) {
	r := rand.New(rand.NewSource(43))
	for range 300 {
		nodes, names := drawnWeb(r)
		there := map[int64]impl.Node{}
		for _, n := range nodes {
			if r.Intn(12) > 0 {
				there[nameOfNode(n)] = n
			}
		}
		kept := []impl.Node{}
		for _, n := range there {
			kept = append(kept, n)
		}
		roots := []int64{}
		for range r.Intn(5) {
			roots = append(roots, names[r.Intn(len(names))])
		}
		reached, whole := map[int64]bool{}, true
		for grown := true; grown; {
			grown = false
			add := func(name int64) {
				if name != 0 && !reached[name] {
					reached[name], grown = true, true
				}
			}
			for _, root := range roots {
				add(root)
			}
			for name, n := range there {
				if reached[name] {
					for _, kid := range n.Kids {
						add(kid.Name)
					}
				}
			}
		}
		want := []int64{}
		for name := range reached {
			want = append(want, name)
			_, is := there[name]
			whole = whole && is
		}
		mustReach(t, cellsOfNodes(kept...), roots, want, whole)
	}
}

// drawnWeb is nodes whose Kids are among those ahead of them, and the names of all, and 0.
func drawnWeb(r *rand.Rand) ([]impl.Node, []int64) {
	nodes, names := []impl.Node{leafOf("a"), leafOf("b")}, []int64{0}
	for _, n := range nodes {
		names = append(names, nameOfNode(n))
	}
	for range 3 + r.Intn(40) {
		one := func() int64 { return names[1+r.Intn(len(names)-1)] }
		n := leafOf("c", int64(r.Intn(16)), int64(r.Intn(16)))
		switch r.Intn(4) {
		case 0:
			n = stemOf(one(), int64(r.Intn(16)))
		case 1, 2:
			n = forkOf("", impl.Kid{At: int64(r.Intn(8)), Name: one()}, impl.Kid{At: int64(8 + r.Intn(8)), Name: one()})
		}
		nodes, names = append(nodes, n), append(names, nameOfNode(n))
	}
	return nodes, names
}

// mustLeave fails when a call writes into the cells, or into the spare room behind the list or behind each of the Bytes.
func mustLeave(t *testing.T, cells []impl.Cell, call func(arg []impl.Cell)) {
	t.Helper()
	cellLists.mustLeave(t, cells, []impl.Cell{cellOf(leafOf("spare")), {Name: 5}}, call)
}

// answersOf is what each function of the chapter answers, in a text; nothing and nil are the same there.
func answersOf(cells []impl.Cell, n impl.Node, name int64, roots []int64) string {
	node, is := impl.NodeAt(cells, name)
	with, put := impl.WithNode(cells, n)
	without, gone := impl.Without(cells, name)
	reach, whole := impl.ReachOf(cells, roots)
	return fmt.Sprintln(impl.CellsOk(cells), node, is, with, put, without, gone, reach, whole)
}

// P19: cells, roots and nodes stay, and so does the spare room behind each of their lists; no answer depends on that room.
func TestP19CellsLeaveTheirArguments(t *testing.T) {
	bad := cellsOfNodes(sampleNodes()...)
	bad[2].Name++
	root := nameOfNode(sampleNodes()[4])
	for _, cells := range append(someCells(), bad, cellsOfNodes(numberedLeaves(maxCells+1)...)) {
		names := []int64{0, -1, 5, root}
		if len(cells) > 0 {
			names = append(names, cells[0].Name, cells[len(cells)-1].Name)
		}
		for _, name := range names {
			for _, n := range append(sampleNodes(), leafOf("new", 4, 4), impl.Node{}, leafOf("")) {
				roots := []int64{root, 0, name, root, 7}
				want := answersOf(cloneCells(cells), cloneNode(n), name, slices.Clone(roots))
				mustLeave(t, cells, func(cells []impl.Cell) {
					mustStay(t, n.Path, sparePath, func(path []int64) {
						mustStay(t, n.Kids, []impl.Kid{{At: 3, Name: 7}, {At: 2, Name: 9}}, func(kids []impl.Kid) {
							mustStay(t, roots, []int64{8, 0, 8, 3, 1, 4}, func(roots []int64) {
								arg := impl.Node{Kind: n.Kind, Path: path, Kids: kids, Value: n.Value}
								if got := answersOf(cells, arg, name, roots); got != want {
									t.Fatalf("of %v with spare room: %s, without: %s", cells, got, want)
								}
							})
						})
					})
				})
			}
		}
	}
}

// mustBeNewCells fails when an answer shares memory with the argument, with another answer, or within itself.
func mustBeNewCells(t *testing.T, cells []impl.Cell, call func(arg []impl.Cell) []impl.Cell) {
	t.Helper()
	arg := cloneCells(cells)
	cellLists.mustBeNew(t, func() []impl.Cell { return call(arg) })
	if !sameCells(arg, cells) {
		t.Fatalf("an answer of %v shares memory with the argument", cells)
	}
	answer := call(arg)
	want := cloneCells(answer)
	spoilCells(arg)
	if !sameCells(answer, want) {
		t.Fatalf("%v is %v once the argument is written into", want, answer)
	}
}

// P19: cells that are answered are new memory, with their Bytes, also where they are as they are.
func TestP19CellsAreNewMemory(t *testing.T) {
	for _, cells := range someCells() {
		nodes := append(sampleNodes(), leafOf("new", 4, 4), impl.Node{}, leafOf("A"))
		for _, n := range nodes {
			mustBeNewCells(t, cells, func(arg []impl.Cell) []impl.Cell {
				got, _ := impl.WithNode(arg, n)
				return got
			})
		}
		names := []int64{0, -1, 5}
		for _, c := range cells {
			names = append(names, c.Name)
		}
		for _, name := range names {
			mustBeNewCells(t, cells, func(arg []impl.Cell) []impl.Cell {
				got, _ := impl.Without(arg, name)
				return got
			})
		}
	}
}

// P19: cells share no memory with the node that was put.
func TestP19PutNodesAreNewMemory(t *testing.T) {
	for _, n := range rightNodes() {
		arg := cloneNode(n)
		cells, _ := impl.WithNode(cellsOfNodes(leafOf("other")), arg)
		spoilNode(arg)
		mustHold(t, cells, leafOf("other"), n)
	}
}

// P19: a node that is found is new memory.
func TestP19FoundNodesAreNewMemory(t *testing.T) {
	cells := cellsOfNodes(rightNodes()...)
	want := cloneCells(cells)
	for _, n := range rightNodes() {
		first, _ := impl.NodeAt(cells, nameOfNode(n))
		second, _ := impl.NodeAt(cells, nameOfNode(n))
		spoilNode(first)
		if !sameNode(second, n) || !sameCells(cells, want) {
			t.Fatalf("%v shares memory with the cells or with another answer", n)
		}
		arg := cloneCells(cells)
		third, _ := impl.NodeAt(arg, nameOfNode(n))
		spoilCells(arg)
		if !sameNode(third, n) {
			t.Fatalf("%v is %v once the cells are written into", n, third)
		}
	}
}

// P19: names that are reached are new memory.
func TestP19ReachedNamesAreNewMemory(t *testing.T) {
	nodes := sampleNodes()
	cells := cellsOfNodes(nodes...)
	root := nameOfNode(nodes[4])
	for _, roots := range [][]int64{nil, {0}, {root}, {root, 5}, {5}, {nameOfNode(nodes[0])}, make([]int64, maxCells+1)} {
		mustBeNew(t, func() []int64 {
			names, _ := impl.ReachOf(cells, roots)
			return names
		})
		arg := slices.Clone(roots)
		names, _ := impl.ReachOf(cells, arg)
		want := slices.Clone(names)
		spoil(arg)
		if !slices.Equal(names, want) {
			t.Fatalf("%v is %v once the roots are written into", want, names)
		}
	}
}
