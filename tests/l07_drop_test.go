package tests

import (
	"fmt"
	"math"
	"math/rand"
	"slices"
	"strings"
	"testing"

	"loop.example/g00754/impl"
)

// mustAnswerDrop asks for just this answer.
func mustAnswerDrop(t *testing.T, cells []impl.Cell, root int64, key string, want []impl.Cell, top, code int64) {
	t.Helper()
	got, r, k := impl.DropIn(cells, root, key)
	if k != code || r != top || !sameCells(got, want) {
		t.Fatalf("DropIn(%v, %d, %q) = %v, %d, %d, want %v, %d, %d", cells, root, key, got, r, k, want, top, code)
	}
}

// mustNotDrop asks for the code, and the cells as they are, and root.
func mustNotDrop(t *testing.T, cells []impl.Cell, root int64, key string, code int64) {
	t.Helper()
	mustAnswerDrop(t, cells, root, key, cells, root, code)
}

// mustBeBadDrop asks for FdBad, no cells and no root.
func mustBeBadDrop(t *testing.T, cells []impl.Cell, root int64, key string) {
	t.Helper()
	mustAnswerDrop(t, cells, root, key, nil, 0, fdBad)
}

// topOf is the root of a tree of which these nodes are made, from its leaves up; of none it is 0.
func topOf(made []impl.Node) int64 {
	if len(made) == 0 {
		return 0
	}
	return lastName(made)
}

// mustDrop asks for the cells and just these nodes, of which the last one is the root; that the key is not found, each other one as it was, and in the old tree each one as it was.
func mustDrop(t *testing.T, cells []impl.Cell, root int64, key string, made ...impl.Node) ([]impl.Cell, int64) {
	t.Helper()
	want, top := joined(cells, made...), topOf(made)
	mustAnswerDrop(t, cells, root, key, want, top, fdThere)
	if !impl.CellsOk(want) {
		t.Fatalf("CellsOk(%v) is false", want)
	}
	mustFind(t, want, top, key, "", fdNone)
	mustNotDrop(t, want, top, key, fdNone)
	others := slices.Concat(keysNear(key), keysIn(cells, root), keysIn(want, top))
	slices.Sort(others)
	for _, other := range slices.Compact(others) {
		v, k := impl.Found(cells, root, other)
		if k == fdLost { // what was not there may be among the new nodes
			continue
		}
		mustFind(t, want, root, other, v, k)
		if other != key {
			mustFind(t, want, top, other, v, k)
		}
	}
	return want, top
}

// pulledTo is the document's words for a tree of which these nodes are made, from its leaves up, the root last; the empty one stays empty.
func pulledTo(made []impl.Node, ahead ...int64) []impl.Node {
	if len(made) == 0 {
		return nil
	}
	last := len(made) - 1
	root := cloneNode(made[last])
	if root.Kind == 3 {
		return append(slices.Clone(made), stemOf(nameOfNode(root), ahead...))
	}
	root.Path = slices.Concat(ahead, root.Path)
	return append(slices.Clone(made[:last]), root)
}

// leftByWords is the document's words, over the digits of the key: the nodes of the new tree that are made, from its leaves up, and the code of finding and pulling.
func leftByWords(there map[int64]impl.Node, name int64, rest string) ([]impl.Node, int64) {
	n, is := there[name]
	path := digitsOf(n.Path)
	switch {
	case name == 0:
		return nil, fdNone
	case !is:
		return nil, fdLost
	case n.Kind == 1 && path == rest:
		return nil, fdThere
	case n.Kind == 2 && strings.HasPrefix(rest, path):
		made, code := leftByWords(there, n.Kids[0].Name, strings.TrimPrefix(rest, path))
		return pulledTo(made, n.Path...), code
	case n.Kind == 3 && rest == "" && n.Value != "":
		return forkLeftByWords(there, nil, n.Kids, "")
	case n.Kind == 3 && rest != "":
		return kidLeftByWords(there, n, rest)
	}
	return nil, fdNone
}

func kidLeftByWords(there map[int64]impl.Node, n impl.Node, rest string) ([]impl.Node, int64) {
	at := worths(rest)[0]
	place := slices.IndexFunc(n.Kids, func(kid impl.Kid) bool { return kid.At == at })
	if place < 0 {
		return nil, fdNone
	}
	made, code := leftByWords(there, n.Kids[place].Name, rest[1:])
	if code != fdThere {
		return nil, code
	}
	kids := slices.Clone(n.Kids)
	if len(made) == 0 {
		kids = slices.Delete(kids, place, place+1)
	} else {
		kids[place].Name = lastName(made)
	}
	return forkLeftByWords(there, made, kids, n.Value)
}

func forkLeftByWords(there map[int64]impl.Node, made []impl.Node, kids []impl.Kid, value string) ([]impl.Node, int64) {
	switch {
	case len(kids) == 0:
		return []impl.Node{leafOf(value)}, fdThere
	case len(kids) == 1 && value == "":
		only, is := there[kids[0].Name]
		if !is {
			return nil, fdLost
		}
		return pulledTo([]impl.Node{only}, kids[0].At), fdThere
	}
	return append(made, forkOf(value, kids...)), fdThere
}

// tooLong asks whether what is pulled has more numbers than a Path may have.
func tooLong(n impl.Node) bool {
	return len(n.Path) > 8
}

// mustDropByWords asks for what the document's words tell, whatever it is; the code is answered.
func mustDropByWords(t *testing.T, cells []impl.Cell, root int64, key string) int64 {
	t.Helper()
	made, code := leftByWords(thereIn(cells), root, key)
	switch {
	case code != fdThere:
		mustNotDrop(t, cells, root, key, code)
		return code
	case slices.ContainsFunc(made, tooLong) || len(joined(cells, made...)) > maxCells:
		mustNotDrop(t, cells, root, key, fdFull)
		return fdFull
	}
	mustDrop(t, cells, root, key, made...)
	return fdThere
}

// leftAbove is the new tree of a node of places, made out of the new tree of that node.
func leftAbove(ahead string, made []impl.Node) []impl.Node {
	other := leafOf("other", 6)
	switch {
	case ahead == "":
		return made
	case ahead == "45":
		return pulledTo(made, 4, 5)
	case ahead == "93":
		return pulledTo(leftAbove("3", made), 9)
	case len(made) == 0:
		return []impl.Node{leafOf("other", 6, 6)}
	}
	return append(slices.Clone(made), forkOf("", impl.Kid{At: 3, Name: lastName(made)}, impl.Kid{At: 6, Name: nameOfNode(other)}))
}

func kidAt(at int64, n impl.Node) impl.Kid {
	return impl.Kid{At: at, Name: nameOfNode(n)}
}

// P7, by hand: from the tree of sampleNodes down to nothing.
func TestP7ByHand(t *testing.T) {
	nodes := sampleNodes()
	y, z, one, a, whole := nodes[0], nodes[1], nodes[2], nodes[3], nodes[4]
	cells, root := mustDrop(t, cellsOfNodes(nodes...), nameOfNode(whole), "3", forkOf("", kidAt(1, a), kidAt(2, z)))
	ab := leafOf("y", 10, 11)
	cells, first := mustDrop(t, cells, root, "1a", ab, forkOf("", kidAt(1, ab), kidAt(2, z)))
	cells, second := mustDrop(t, cells, first, "2", leafOf("y", 1, 10, 11))
	cells, third := mustDrop(t, cells, second, "1ab")
	if third != 0 || len(cells) != 9 {
		t.Fatalf("the root is %d, with %d cells", third, len(cells))
	}
	mustHoldMap(t, cells, root, map[string]string{"1a": "x", "1ab": "y", "2": "z"}, keysOver("0123ab", 3))
	mustHoldMap(t, cells, first, map[string]string{"1ab": "y", "2": "z"}, keysOver("0123ab", 3))
	mustHoldMap(t, cells, second, map[string]string{"1ab": "y"}, keysOver("0123ab", 3))
	mustHoldMap(t, cells, third, nil, keysOver("0123ab", 3))
	cells, root = mustDrop(t, cellsOfNodes(nodes...), nameOfNode(whole), "1ab", leafOf("x", 10), forkOf("", kidAt(1, leafOf("x", 10)), kidAt(2, z), kidAt(3, z)))
	cells, root = mustDrop(t, cells, root, "1a", forkOf("", kidAt(2, z), kidAt(3, z)))
	cells, root = mustDrop(t, cells, root, "2", leafOf("z", 3))
	if _, root = mustDrop(t, cells, root, "3"); root != 0 {
		t.Fatalf("the root is %d", root)
	}
	pulled := stemOf(nameOfNode(one), 1, 10)
	cells, root = mustDrop(t, cellsOfNodes(y, one, a, z, forkOf("", kidAt(1, a), kidAt(2, z))), nameOfNode(forkOf("", kidAt(1, a), kidAt(2, z))), "2", pulled)
	mustDrop(t, cells, root, "1a", leafOf("y", 1, 10, 11))
	mustDrop(t, cells, root, "1ab", leafOf("x", 1, 10))
}

// someMaps are ordinary maps, of few keys.
func someMaps() []map[string]string {
	return []map[string]string{
		{"1a": "x", "1ab": "y", "2": "z", "3": "z"},
		{"0": "a", "00": "b", "000": "c", "0000": "d", "00000000": "e"},
		{"f": "a", "fff": "b", "ffe": "c", "0ff": "d"},
		{"123": "a", "124": "b", "135": "c", "1": "d", "12": "e"},
		{"12345678": "far", "123": "near", "12345679": "next", "92345678": "away"},
		{"abcdef": "same", "abcdee": "same", "abc": "same", "ab": "same"},
		{"1": "z", "2": "z", "12": "z", "22": "z"},
	}
}

// P7: ordinary maps, dropped in each order, down to 0: each time the root is that of the tree in which the key had never been, and all trees ahead are there with their roots.
func TestP7EachOrder(t *testing.T) {
	for _, pairs := range someMaps() {
		keys := []string{}
		for key := range pairs {
			keys = append(keys, key)
		}
		slices.Sort(keys)
		nodes, first := planted(pairs)
		for _, order := range orders(keys) {
			cells, root, so := cellsOfNodes(nodes...), first, behind(pairs, "")
			for _, key := range order {
				delete(so, key)
				made, _ := planted(so)
				cells, root = mustDrop(t, cells, root, key, made...)
				mustHoldMap(t, cells, root, so, keys)
			}
			mustHoldMap(t, cells, first, pairs, keysOver("01abf", 2))
			if root != 0 {
				t.Fatalf("dropped in the order %v the root is %d", order, root)
			}
		}
	}
}

// P7: each map of these keys, each key of them dropped, and each key that is not there.
func TestP7EachMap(t *testing.T) {
	keys := append(keysOver("05", 2), "055", "0505")
	for mask := range 1 << len(keys) {
		pairs := map[string]string{}
		for i, key := range keys {
			if mask>>i&1 == 1 {
				pairs[key] = "same"
			}
		}
		nodes, root := planted(pairs)
		cells := cellsOfNodes(nodes...)
		for _, key := range append(keys, "1", "050") {
			if pairs[key] == "" {
				mustNotDrop(t, cells, root, key, fdNone)
				continue
			}
			so := behind(pairs, "")
			delete(so, key)
			made, top := planted(so)
			mustAnswerDrop(t, cells, root, key, joined(cells, made...), top, fdThere)
		}
	}
}

// P7: drawn maps, dropped in drawn orders down to 0; where there is no room the cells are only those of the tree from then on.
func TestP7DrawnMaps(t *testing.T) {
	r := rand.New(rand.NewSource(71))
	told := map[int64]int{}
	for range 60 {
		so := drawnMap(r, 26)
		keys := []string{}
		for key := range so {
			keys = append(keys, key)
		}
		slices.Sort(keys)
		r.Shuffle(len(keys), func(i, k int) { keys[i], keys[k] = keys[k], keys[i] })
		nodes, root := planted(so)
		cells := cellsOfNodes(nodes...)
		if r.Intn(2) == 0 {
			cells = joined(cells, numberedLeaves(max(0, maxCells-len(cells)-r.Intn(20)))...)
		}
		for _, key := range keys {
			old, was := behind(so, ""), root
			delete(so, key)
			made, top := planted(so)
			if len(joined(cells, made...)) > maxCells {
				mustNotDrop(t, cells, root, key, fdFull)
				told[fdFull]++
				nodes, _ := planted(old)
				cells = cellsOfNodes(nodes...)
			}
			want := joined(cells, made...)
			if len(want) > maxCells {
				break
			}
			mustAnswerDrop(t, cells, root, key, want, top, fdThere)
			told[fdThere]++
			cells, root = want, top
			mustHoldMap(t, cells, top, so, append(keysNear(key)[:10], key))
			mustHoldMap(t, cells, was, old, nil)
			mustNotDrop(t, cells, root, key, fdNone)
		}
	}
	if told[fdThere] < 400 || told[fdFull] < 5 {
		t.Fatalf("the codes are told %v times", told)
	}
}

// P7: what is put is dropped again, and what is dropped is put again: the tree is the one that it was, and nothing is added to the cells.
func TestP7PutAndDropped(t *testing.T) {
	r := rand.New(rand.NewSource(72))
	for range 60 {
		pairs := drawnMap(r, 12)
		nodes, root := planted(pairs)
		cells := cellsOfNodes(nodes...)
		for range 4 {
			key := drawnKeyAmong(r, 16)
			if pairs[key] != "" {
				continue
			}
			with, top, code := impl.PutIn(cells, root, key, "new")
			if code != fdThere {
				t.Fatalf("the code is %d", code)
			}
			mustAnswerDrop(t, with, top, key, with, root, fdThere)
		}
		for key, value := range pairs {
			without, top, code := impl.DropIn(cells, root, key)
			if code != fdThere {
				t.Fatalf("the code is %d", code)
			}
			mustAnswerPut(t, without, top, key, value, without, root, fdThere)
			mustAnswerDrop(t, without, root, key, without, top, fdThere)
		}
	}
}

// P7: in the empty tree nothing is there, whatever the cells are.
func TestP7RootZero(t *testing.T) {
	for _, cells := range someCells() {
		for _, key := range []string{"0", "f", "1a", "1ab", "2", "12345678", "00000000", "ffffffff"} {
			mustNotDrop(t, cells, 0, key, fdNone)
		}
	}
}

// P7: a leaf whose Path is the path, is the beginning of it, is longer, or parts from it; at the root, below a stem and below a fork, of which the other Kid is left.
func TestP7Leaves(t *testing.T) {
	for _, path := range append(keysOver("07", 3), "", "0000000", "07070707", "123", "12345678", "ffffff") {
		for _, p := range places(leafOf("old", worths(path)...)) {
			for _, rest := range append(keysOver("07", 3), "", path, "0000000", "0707070", "12", "1234", "ffffff") {
				key := p.ahead + rest
				switch {
				case !impl.KeyOk(key):
					mustBeBadDrop(t, p.cells, p.root, key)
				case rest == path:
					mustDrop(t, p.cells, p.root, key, leftAbove(p.ahead, nil)...)
				default:
					mustNotDrop(t, p.cells, p.root, key, fdNone)
				}
			}
		}
	}
	l := leafOf("old", 1, 2)
	if cells, top := mustDrop(t, cellsOfNodes(l), nameOfNode(l), "12"); top != 0 || len(cells) != 1 {
		t.Fatalf("the root is %d, with %d cells", top, len(cells))
	}
	under := stemOf(nameOfNode(l), 3)
	if _, top := mustDrop(t, cellsOfNodes(l, under), nameOfNode(under), "312"); top != 0 {
		t.Fatalf("the root is %d", top)
	}
	twice := stemOf(nameOfNode(under), 4, 5)
	if _, top := mustDrop(t, cellsOfNodes(l, under, twice), nameOfNode(twice), "45312"); top != 0 {
		t.Fatalf("the root is %d", top)
	}
}

// P7: a stem whose Path is at the beginning of the path, below which nothing is left, or a leaf, a stem or a fork is pulled; and a stem whose Path is not.
func TestP7Stems(t *testing.T) {
	x, y, z := leafOf("x", 1), leafOf("y", 2, 3), leafOf("z")
	both := forkOf("", kidAt(1, x), kidAt(2, y))
	under := stemOf(nameOfNode(both), 7, 8)
	three := forkOf("here", kidAt(0, z), kidAt(1, x), kidAt(2, y))
	toLeaf, toStem, toFork := forkOf("", kidAt(0, y), kidAt(1, z)), forkOf("", kidAt(0, under), kidAt(1, z)), forkOf("", kidAt(0, both), kidAt(1, z))
	hasLeaf, hasStem, hasFork := forkOf("v", kidAt(4, y)), forkOf("v", kidAt(4, under)), forkOf("v", kidAt(4, both))
	lessKids, noValue := forkOf("here", kidAt(1, x), kidAt(2, y)), forkOf("", three.Kids...)
	nodes := []impl.Node{x, y, z, both, under, three, toLeaf, toStem, toFork, hasLeaf, hasStem, hasFork, stemOf(nameOfNode(three), 8)}
	for _, path := range [][]int64{{5}, {5, 6}, {0, 15, 0}} {
		to := func(more ...int64) []int64 { return slices.Concat(path, more) }
		for _, c := range []struct {
			kid  impl.Node
			rest string
			made []impl.Node
		}{
			{x, "1", nil},
			{z, "", nil},
			{toLeaf, "1", []impl.Node{leafOf("y", to(0, 2, 3)...)}},
			{toLeaf, "023", []impl.Node{leafOf("z", to(1)...)}},
			{toStem, "1", []impl.Node{stemOf(nameOfNode(both), to(0, 7, 8)...)}},
			{toFork, "1", []impl.Node{stemOf(nameOfNode(both), to(0)...)}},
			{hasLeaf, "", []impl.Node{leafOf("y", to(4, 2, 3)...)}},
			{hasStem, "", []impl.Node{stemOf(nameOfNode(both), to(4, 7, 8)...)}},
			{hasFork, "", []impl.Node{stemOf(nameOfNode(both), to(4)...)}},
			{hasLeaf, "423", []impl.Node{leafOf("v", path...)}},
			{three, "", []impl.Node{noValue, stemOf(nameOfNode(noValue), path...)}},
			{three, "0", []impl.Node{lessKids, stemOf(nameOfNode(lessKids), path...)}},
			{under, "7811", []impl.Node{leafOf("y", to(7, 8, 2, 2, 3)...)}},
			{stemOf(nameOfNode(three), 8), "80", []impl.Node{lessKids, stemOf(nameOfNode(lessKids), to(8)...)}},
		} {
			s := stemOf(nameOfNode(c.kid), path...)
			for _, p := range places(append(slices.Clone(nodes), s)...) {
				key, made := p.ahead+digitsOf(path)+c.rest, leftAbove(p.ahead, c.made)
				switch {
				case !impl.KeyOk(key):
					mustBeBadDrop(t, p.cells, p.root, key)
				case slices.ContainsFunc(made, tooLong):
					mustNotDrop(t, p.cells, p.root, key, fdFull)
				default:
					mustDrop(t, p.cells, p.root, key, made...)
				}
				for _, rest := range []string{"", "4", "57", "0", "0f", "0f1", "f", "1" + c.rest, digitsOf(path)[1:] + c.rest} {
					if key := p.ahead + rest; impl.KeyOk(key) && !strings.HasPrefix(rest, digitsOf(path)) {
						mustNotDrop(t, p.cells, p.root, key, fdNone)
					}
				}
			}
		}
	}
}

// P7: stems to a leaf, a stem and a fork, each Path with each path, over the document's words.
func TestP7EachStemPath(t *testing.T) {
	end := leafOf("end", 7)
	s := stemOf(nameOfNode(end), 0)
	f := forkOf("here", kidAt(7, end))
	told := map[int64]int{}
	for _, kid := range []impl.Node{end, s, f} {
		for _, path := range append(keysOver("07", 3), "0707070", "07070707", "123") {
			for _, p := range places(end, s, f, stemOf(nameOfNode(kid), worths(path)...)) {
				for _, rest := range append(keysOver("07", 3), "", "0000", "0007", path, path+"7", path+"07", path+"77", path+"0", "123", "1237", "12") {
					if key := p.ahead + rest; impl.KeyOk(key) {
						told[mustDropByWords(t, p.cells, p.root, key)]++
					}
				}
			}
		}
	}
	if told[fdThere] < 200 || told[fdNone] < 500 {
		t.Fatalf("the codes are told %v times", told)
	}
}

// P7: a fork with nothing left, with a Value and without, with one Kid (a leaf, a stem, a fork), which is pulled, and with more.
func TestP7ForkValues(t *testing.T) {
	end := leafOf("end", 2)
	both := forkOf("", kidAt(1, end), kidAt(9, end))
	under := stemOf(nameOfNode(both), 7)
	valued := forkOf("w", kidAt(1, end))
	for _, at := range []int64{0, 7, 15} {
		for _, c := range []struct{ kid, pulled impl.Node }{
			{end, leafOf("end", at, 2)},
			{leafOf("end"), leafOf("end", at)},
			{under, stemOf(nameOfNode(both), at, 7)},
			{both, stemOf(nameOfNode(both), at)},
			{valued, stemOf(nameOfNode(valued), at)},
		} {
			for _, p := range places(end, both, under, valued, leafOf("end"), forkOf("v", kidAt(at, c.kid)))[1:] {
				mustDrop(t, p.cells, p.root, p.ahead, leftAbove(p.ahead, []impl.Node{c.pulled})...)
			}
		}
	}
	for _, kids := range [][]impl.Kid{{kidAt(0, end), kidAt(15, both)}, {kidAt(3, under), kidAt(4, end), kidAt(5, valued)}} {
		for _, p := range places(end, both, under, valued, forkOf("v", kids...))[1:] {
			mustDrop(t, p.cells, p.root, p.ahead, leftAbove(p.ahead, []impl.Node{forkOf("", kids...)})...)
		}
		for _, p := range places(end, both, under, valued, forkOf("", kids...))[1:] {
			mustNotDrop(t, p.cells, p.root, p.ahead, fdNone)
		}
	}
}

// P7: a fork without a Kid at the next number, whatever it has; its Value is not dropped instead.
func TestP7ForkKidsNone(t *testing.T) {
	end := leafOf("end")
	for _, value := range []string{"", "v"} {
		for _, p := range places(end, forkOf(value, kidAt(2, end), kidAt(3, end), kidAt(14, end))) {
			for at := range int64(16) {
				for _, rest := range []string{"", "0", "abc"} {
					if rest != "" || at != 2 && at != 3 && at != 14 {
						mustNotDrop(t, p.cells, p.root, p.ahead+hexDigits[at:at+1]+rest, fdNone)
					}
				}
			}
		}
	}
	for _, p := range places(end, forkOf("v", kidAt(2, end))) {
		for _, rest := range []string{"0", "1", "3", "f", "22", "02"} {
			mustNotDrop(t, p.cells, p.root, p.ahead+rest, fdNone)
		}
	}
}

// P7: a fork whose Kid's new tree is 0, at each of its places: a leaf of its Value, a fork of the others, or, without a Value, the only one that is left, pulled to its At.
func TestP7ForkKidsGone(t *testing.T) {
	gone, end := leafOf("gone", 5), leafOf("end", 2)
	both := forkOf("", kidAt(1, end), kidAt(9, end))
	under := stemOf(nameOfNode(both), 7)
	valued := forkOf("w", kidAt(1, end))
	nodes := []impl.Node{gone, end, both, under, valued, stemOf(nameOfNode(gone), 8)}
	for _, dropped := range []struct {
		kid  impl.Node
		rest string
	}{{gone, "5"}, {stemOf(nameOfNode(gone), 8), "85"}} {
		for _, at := range []int64{0, 6, 15} {
			digit := hexDigits[at : at+1]
			for _, p := range places(append(slices.Clone(nodes), forkOf("v", kidAt(at, dropped.kid)))...) {
				mustDrop(t, p.cells, p.root, p.ahead+digit+dropped.rest, leftAbove(p.ahead, []impl.Node{leafOf("v")})...)
			}
			for _, others := range []int64{1, 14} {
				for _, c := range []struct{ kid, pulled impl.Node }{
					{end, leafOf("end", others, 2)},
					{under, stemOf(nameOfNode(both), others, 7)},
					{both, stemOf(nameOfNode(both), others)},
					{valued, stemOf(nameOfNode(valued), others)},
				} {
					for _, value := range []string{"", "v"} {
						kids := kidsOf(map[int64]int64{at: nameOfNode(dropped.kid), others: nameOfNode(c.kid)})
						made := []impl.Node{c.pulled}
						if value != "" {
							made = []impl.Node{forkOf(value, kidAt(others, c.kid))}
						}
						for _, p := range places(append(slices.Clone(nodes), forkOf(value, kids...))...) {
							mustDrop(t, p.cells, p.root, p.ahead+digit+dropped.rest, leftAbove(p.ahead, made)...)
						}
						more := kidsOf(map[int64]int64{at: nameOfNode(dropped.kid), others: nameOfNode(c.kid), 9: nameOfNode(end)})
						left := kidsOf(map[int64]int64{others: nameOfNode(c.kid), 9: nameOfNode(end)})
						for _, p := range places(append(slices.Clone(nodes), forkOf(value, more...))...) {
							mustDrop(t, p.cells, p.root, p.ahead+digit+dropped.rest, leftAbove(p.ahead, []impl.Node{forkOf(value, left...)})...)
						}
					}
				}
			}
		}
	}
}

// P7: a fork whose Kid's new tree is not 0 has that one instead, also where it is a Kid by the same name elsewhere.
func TestP7ForkKidsChanged(t *testing.T) {
	z := leafOf("z")
	low := forkOf("w", kidAt(1, z))
	for _, value := range []string{"", "v"} {
		f := forkOf(value, kidAt(0, low), kidAt(7, low), kidAt(15, low))
		for _, p := range places(z, low, f) {
			for i, at := range []string{"0", "7", "f"} {
				for rest, left := range map[string]impl.Node{"": leafOf("z", 1), "1": leafOf("w")} {
					kids := slices.Clone(f.Kids)
					kids[i].Name = nameOfNode(left)
					mustDrop(t, p.cells, p.root, p.ahead+at+rest, leftAbove(p.ahead, []impl.Node{left, forkOf(value, kids...)})...)
				}
			}
		}
	}
}

// P7: forks of many shapes, up to sixteen Kids, over the document's words.
func TestP7EachForkKid(t *testing.T) {
	end := leafOf("end", 4)
	for mask := 1; mask < 1<<16; mask = mask*5/3 + 1 {
		for _, value := range []string{"", "here"} {
			f := forkOf(value)
			for at := range int64(16) {
				if mask>>at&1 == 1 {
					f.Kids = append(f.Kids, kidAt(at, end))
				}
			}
			if !impl.NodeOk(f) {
				continue
			}
			s := stemOf(nameOfNode(f), 3)
			for at := range int64(16) {
				digit := hexDigits[at : at+1]
				for _, key := range []string{digit + "4", digit, "3" + digit + "4"} {
					mustDropByWords(t, cellsOfNodes(end, f), nameOfNode(f), key)
					mustDropByWords(t, cellsOfNodes(end, f, s), nameOfNode(s), key)
				}
			}
			mustDropByWords(t, cellsOfNodes(end, f, s), nameOfNode(s), "3")
		}
	}
}

// P7: what is pulled again and again, from fork to stem to fork: only what it is in the end is added.
func TestP7PulledFurther(t *testing.T) {
	z := leafOf("z")
	low := forkOf("w", kidAt(1, z))
	s1, s2 := stemOf(nameOfNode(low), 2), stemOf(nameOfNode(stemOf(nameOfNode(low), 2)), 3, 4)
	top := stemOf(nameOfNode(s2), 5)
	cells := cellsOfNodes(z, low, s1, s2, top)
	mustDrop(t, cells, nameOfNode(top), "53421", leafOf("w", 5, 3, 4, 2))
	mustDrop(t, cells, nameOfNode(top), "5342", leafOf("z", 5, 3, 4, 2, 1))
	more := forkOf("w", kidAt(1, z), kidAt(2, z))
	s1, s2 = stemOf(nameOfNode(more), 2), stemOf(nameOfNode(stemOf(nameOfNode(more), 2)), 3, 4)
	top = stemOf(nameOfNode(s2), 5)
	cells = cellsOfNodes(z, more, s1, s2, top)
	mustDrop(t, cells, nameOfNode(top), "53421", forkOf("w", kidAt(2, z)), stemOf(nameOfNode(forkOf("w", kidAt(2, z))), 5, 3, 4, 2))
	bare := forkOf("", more.Kids...)
	mustDrop(t, cells, nameOfNode(top), "5342", bare, stemOf(nameOfNode(bare), 5, 3, 4, 2))
	left, _ := impl.Without(cells, nameOfNode(s2))
	mustNotDrop(t, left, nameOfNode(top), "5342", fdLost)
}

// P7: what is pulled and is not there, where a Value goes and where a Kid goes; with something else left it is not pulled and need not be there.
func TestP7LostIsPulled(t *testing.T) {
	end, gone := leafOf("end", 2), leafOf("gone")
	for _, lost := range []int64{5, math.MaxInt64, nameOfNode(leafOf("nothere")), nameOfNode(gone) + 1} {
		there := impl.Kid{At: 9, Name: nameOfNode(end)}
		off := impl.Kid{At: 4, Name: lost}
		for _, p := range places(gone, end, forkOf("v", off))[1:] {
			mustNotDrop(t, p.cells, p.root, p.ahead, fdLost)
		}
		for _, p := range places(gone, end, forkOf("", off, kidAt(8, gone))) {
			mustNotDrop(t, p.cells, p.root, p.ahead+"8", fdLost)
			mustNotDrop(t, p.cells, p.root, p.ahead+"80", fdNone)
			mustNotDrop(t, p.cells, p.root, p.ahead+"7", fdNone)
			mustNotDrop(t, p.cells, p.root, p.ahead+"4", fdLost)
		}
		for _, p := range places(gone, end, forkOf("v", off, kidAt(8, gone))) {
			mustDrop(t, p.cells, p.root, p.ahead+"8", leftAbove(p.ahead, []impl.Node{forkOf("v", off)})...)
			if p.ahead != "" {
				mustDrop(t, p.cells, p.root, p.ahead, leftAbove(p.ahead, []impl.Node{forkOf("", off, kidAt(8, gone))})...)
			}
		}
		for _, p := range places(gone, end, forkOf("", off, kidAt(8, gone), there)) {
			mustDrop(t, p.cells, p.root, p.ahead+"8", leftAbove(p.ahead, []impl.Node{forkOf("", off, there)})...)
			mustDrop(t, p.cells, p.root, p.ahead+"92", leftAbove(p.ahead, []impl.Node{forkOf("", off, kidAt(8, gone))})...)
		}
		s := stemOf(lost, 1, 2)
		for _, p := range places(gone, s, forkOf("", kidAt(4, s), kidAt(8, gone))) {
			mustDrop(t, p.cells, p.root, p.ahead+"8", leftAbove(p.ahead, []impl.Node{stemOf(lost, 4, 1, 2)})...)
		}
		f := forkOf("", off, impl.Kid{At: 6, Name: lost})
		for _, p := range places(gone, f, forkOf("", kidAt(4, f), kidAt(8, gone))) {
			mustDrop(t, p.cells, p.root, p.ahead+"8", leftAbove(p.ahead, []impl.Node{stemOf(nameOfNode(f), 4)})...)
		}
	}
}

// P7: what is pulled must be there ahead of the drop: it does not help that it would be made.
func TestP7LostIsMade(t *testing.T) {
	pulled := leafOf("v")
	low := forkOf("v", kidAt(3, leafOf("gone")))
	f := forkOf("", kidAt(1, low), kidAt(2, pulled), kidAt(3, pulled))
	cells := cellsOfNodes(leafOf("gone"), low, f)
	left := forkOf("", kidAt(1, pulled), kidAt(2, pulled), kidAt(3, pulled))
	next, top := mustDrop(t, cells, nameOfNode(f), "13", pulled, left)
	mustFindAll(t, next, top, []string{"1", "2", "3"}, "v", fdThere)
	mustNotDrop(t, cells, nameOfNode(f), "2", fdLost)
	two := forkOf("", kidAt(2, pulled), kidAt(3, leafOf("gone")))
	mustNotDrop(t, cellsOfNodes(leafOf("gone"), two), nameOfNode(two), "3", fdLost)
	mustNotDrop(t, cellsOfNodes(leafOf("gone"), leafOf("v", 2), two), nameOfNode(two), "3", fdLost)
	mustNotDrop(t, cellsOfNodes(leafOf("gone"), two), nameOfNode(two), "2", fdLost)
}

// P7: a node on the way that is not there, at the root, below a stem and below a fork; the same node off the way does not matter.
func TestP7LostOnTheWay(t *testing.T) {
	end := leafOf("end")
	s := stemOf(5, 1, 2)
	f := forkOf("here", impl.Kid{At: 3, Name: 6}, kidAt(4, end), kidAt(9, s))
	cells := cellsOfNodes(end, s, f)
	for _, root := range []int64{1, 5, math.MaxInt64, nameOfNode(leafOf("nothere"))} {
		for _, cells := range append(someCells(), cells) {
			for _, key := range []string{"0", "12", "12345678"} {
				mustNotDrop(t, cells, root, key, fdLost)
			}
		}
	}
	for _, p := range places(end, s, f) {
		for _, rest := range []string{"3", "30", "3fff", "912", "9120"} {
			mustNotDrop(t, p.cells, p.root, p.ahead+rest, fdLost)
		}
		for _, rest := range []string{"0", "44", "9", "91", "913", "1", "12"} {
			mustNotDrop(t, p.cells, p.root, p.ahead+rest, fdNone)
		}
		next, top := mustDrop(t, p.cells, p.root, p.ahead+"4", leftAbove(p.ahead, []impl.Node{forkOf("here", impl.Kid{At: 3, Name: 6}, kidAt(9, s))})...)
		mustFindAll(t, next, top, []string{p.ahead + "3", p.ahead + "333", p.ahead + "912"}, "", fdLost)
	}
}

// P7: in the tree made by hand, without one of its nodes: just the keys whose way goes there are lost, and those at which it would be pulled.
func TestP7OneNodeGone(t *testing.T) {
	nodes := sampleNodes()
	root := nameOfNode(nodes[4])
	for i, codes := range []map[string]int64{
		{"1a": fdLost, "1ab": fdLost, "2": fdThere, "3": fdThere, "1b": fdNone, "1abc": fdLost},
		{"1a": fdThere, "1ab": fdThere, "2": fdLost, "3": fdLost, "22": fdLost, "0": fdNone},
		{"1a": fdLost, "1ab": fdLost, "2": fdThere, "3": fdThere, "1": fdNone, "1b": fdNone},
		{"1a": fdLost, "1ab": fdLost, "2": fdThere, "3": fdThere, "1": fdLost, "4": fdNone},
		{"1a": fdLost, "1ab": fdLost, "2": fdLost, "3": fdLost, "1": fdLost, "4": fdLost},
	} {
		less := cellsOfNodes(slices.Delete(slices.Clone(nodes), i, i+1)...)
		for key, want := range codes {
			if code := mustDropByWords(t, less, root, key); code != want {
				t.Fatalf("without the node %d the code of %q is %d, want %d", i, key, code, want)
			}
		}
	}
}

// P7: a Path of MaxKey numbers where it is pulled, and one that would be longer: of a leaf, a stem and a fork, pulled by a fork and by what is above it.
func TestP7LongestPaths(t *testing.T) {
	gone, end := leafOf("gone"), leafOf("end")
	both := forkOf("", kidAt(1, end), kidAt(9, end))
	for size := range int64(9) {
		path := upTo(size)
		pulled := []impl.Node{leafOf("far", path...)}
		if size > 0 {
			pulled = append(pulled, stemOf(nameOfNode(both), path...))
		} else {
			pulled = append(pulled, both)
		}
		for _, n := range pulled {
			for _, f := range []impl.Node{forkOf("", kidAt(2, n), kidAt(3, gone)), forkOf("v", kidAt(2, n))} {
				rest := "3"
				if f.Value != "" {
					rest = ""
				}
				for ahead := range int64(9) {
					root, begin := f, upTo(ahead)
					if ahead > 0 {
						root = stemOf(nameOfNode(f), begin...)
					}
					key := digitsOf(begin) + rest
					if !impl.KeyOk(key) {
						continue
					}
					cells := cellsOfNodes(gone, end, both, n, f, root)
					if size+1+ahead > 8 {
						mustNotDrop(t, cells, nameOfNode(root), key, fdFull)
						continue
					}
					mustDrop(t, cells, nameOfNode(root), key, pulledTo([]impl.Node{n}, append(begin, 2)...)...)
				}
			}
		}
	}
}

// P7: a Path that would be longer than MaxKey, below another fork, which stays, and where what is left is a fork on the way or a leaf of a Value.
func TestP7TooLongBelowOthers(t *testing.T) {
	gone, far := leafOf("gone"), leafOf("far", upTo(8)...)
	low := forkOf("", kidAt(0, gone), kidAt(1, far))
	mid := stemOf(nameOfNode(low), 7)
	top := forkOf("t", kidAt(3, mid), kidAt(4, low))
	cells := cellsOfNodes(gone, far, low, mid, top)
	mustNotDrop(t, cells, nameOfNode(top), "370", fdFull)
	mustNotDrop(t, cells, nameOfNode(top), "40", fdFull)
	mustNotDrop(t, cells, nameOfNode(low), "0", fdFull)
	mustNotDrop(t, cells, nameOfNode(mid), "70", fdFull)
	mustNotDrop(t, cells, nameOfNode(top), "37", fdNone)
	long := stemOf(nameOfNode(low), 1, 2, 3, 4, 5, 6, 7)
	mustNotDrop(t, joined(cells, long), nameOfNode(long), "12345670", fdFull)
	valued := forkOf("v", kidAt(0, gone))
	under := stemOf(nameOfNode(valued), 1, 2, 3, 4, 5, 6, 7)
	cells = cellsOfNodes(gone, valued, under)
	mustDrop(t, cells, nameOfNode(under), "12345670", leafOf("v", 1, 2, 3, 4, 5, 6, 7))
	mustDrop(t, cells, nameOfNode(under), "1234567", leafOf("gone", 1, 2, 3, 4, 5, 6, 7, 0))
	under = stemOf(nameOfNode(valued), upTo(8)...)
	mustNotDrop(t, cellsOfNodes(gone, valued, under), nameOfNode(under), digitsOf(upTo(8)), fdFull)
	more := forkOf("v", kidAt(0, gone), kidAt(1, gone))
	under = stemOf(nameOfNode(more), upTo(8)...)
	bare := forkOf("", more.Kids...)
	mustDrop(t, cellsOfNodes(gone, more, under), nameOfNode(under), digitsOf(upTo(8)), bare, stemOf(nameOfNode(bare), upTo(8)...))
	lost := forkOf("v", impl.Kid{At: 0, Name: 5})
	under = stemOf(nameOfNode(lost), upTo(8)...)
	mustNotDrop(t, cellsOfNodes(lost, under), nameOfNode(under), digitsOf(upTo(8)), fdLost)
}

// P7: nodes that are reached from themselves; the answer still comes, the old node stays, and is pulled like any other.
func TestP7ReachedFromItself(t *testing.T) {
	s, f, gone := selfNamed(), selfForked(), leafOf("gone")
	cells := cellsOfNodes(s, f, gone)
	for _, key := range keysOver("28", 6) {
		mustNotDrop(t, cells, nameOfNode(s), key, fdNone)
	}
	for _, key := range append(keysOver("238", 5), "28328328") {
		mustNotDrop(t, cells, nameOfNode(s), key, fdNone)
	}
	for size := 1; size <= 8; size++ {
		key := strings.Repeat("a", size)
		made := []impl.Node{stemOf(nameOfNode(f), 10)}
		for range size {
			made = append(made, forkOf(f.Value, kidAt(10, made[len(made)-1])))
		}
		next, top := mustDrop(t, cells, nameOfNode(f), key, made...)
		mustFindAll(t, next, top, []string{key[:size-1] + "b"}, "", fdNone)
		mustNotDrop(t, cells, nameOfNode(f), key[:size-1]+"b", fdNone)
	}
	two := forkOf("", kidAt(1, s), kidAt(2, gone), kidAt(3, f))
	cells = joined(cells, two)
	mustDrop(t, cells, nameOfNode(two), "2", forkOf("", kidAt(1, s), kidAt(3, f)))
	one := forkOf("", kidAt(1, s), kidAt(2, gone))
	mustDrop(t, joined(cells, one), nameOfNode(one), "2", stemOf(nameOfNode(s), 1, 2, 8, 3))
	other := forkOf("", kidAt(2, gone), kidAt(3, f))
	mustDrop(t, joined(cells, other), nameOfNode(other), "2", stemOf(nameOfNode(f), 3))
	mustDropByWords(t, joined(cells, other), nameOfNode(other), "3aaaaaa")
}

// P7: a node of the new tree that is among the cells already is not put there again, whether it is of the old tree or not; one that is not is put, and nothing else.
func TestP7AmongTheCells(t *testing.T) {
	z, gone := leafOf("z"), leafOf("gone", 4)
	low := forkOf("", kidAt(1, z), kidAt(2, gone))
	top := forkOf("t", kidAt(7, low), kidAt(8, z))
	made := []impl.Node{leafOf("z", 1), forkOf("t", kidAt(7, leafOf("z", 1)), kidAt(8, z))}
	for mask := range 4 {
		cells := cellsOfNodes(z, gone, low, top, leafOf("other"))
		for i, n := range made {
			if mask>>i&1 == 1 {
				cells = joined(cells, n)
			}
		}
		next, _ := mustDrop(t, cells, nameOfNode(top), "724", made...)
		if len(next) != 7 {
			t.Fatalf("%d cells, want 7", len(next))
		}
		mustAnswerDrop(t, next, nameOfNode(top), "724", next, lastName(made), fdThere)
	}
	both := forkOf("", kidAt(1, z), kidAt(2, z))
	pulled := forkOf("", kidAt(3, both), kidAt(4, z))
	cells := cellsOfNodes(z, both, pulled, stemOf(nameOfNode(both), 3))
	mustAnswerDrop(t, cells, nameOfNode(pulled), "4", cells, nameOfNode(stemOf(nameOfNode(both), 3)), fdThere)
	less, _ := impl.Without(cells, nameOfNode(stemOf(nameOfNode(both), 3)))
	mustAnswerDrop(t, less, nameOfNode(pulled), "4", cells, nameOfNode(stemOf(nameOfNode(both), 3)), fdThere)
	next, _ := mustDrop(t, less, nameOfNode(pulled), "31", leafOf("z", 2), forkOf("", kidAt(3, leafOf("z", 2)), kidAt(4, z)))
	if len(next) != len(less)+2 {
		t.Fatalf("%d cells, want %d", len(next), len(less)+2)
	}
}

// P7: MaxCells met exactly, and passed by one, with each count of new nodes; what is there already needs no room, and 0 needs none.
func TestP7MaxCells(t *testing.T) {
	nodes := sampleNodes()
	root := nameOfNode(nodes[4])
	for key, count := range map[string]int{"1a": 2, "1ab": 2, "2": 1, "3": 1} {
		made, _ := leftByWords(thereIn(cellsOfNodes(nodes...)), root, key)
		if more := len(joined(cellsOfNodes(nodes...), made...)) - len(nodes); more != count {
			t.Fatalf("%q needs %d new nodes, want %d", key, more, count)
		}
		for room := range count + 2 {
			cells := cellsOfNodes(append(numberedLeaves(maxCells-len(nodes)-room), nodes...)...)
			if room < count {
				mustNotDrop(t, cells, root, key, fdFull)
				mustNotDrop(t, cells, root, "1", fdNone)
				continue
			}
			next, top := mustDrop(t, cells, root, key, made...)
			if len(next) != maxCells-room+count {
				t.Fatalf("%d cells", len(next))
			}
			mustNotDrop(t, next, top, key, fdNone)
		}
		full := joined(cellsOfNodes(append(numberedLeaves(maxCells-len(nodes)-count), nodes...)...), made...)
		mustAnswerDrop(t, full, root, key, full, lastName(made), fdThere)
		for i, n := range made { // one of them gone, and another one in its place: too many by one
			less, gone := impl.Without(full, nameOfNode(n))
			if slices.ContainsFunc(nodes, func(m impl.Node) bool { return sameNode(m, n) }) || !gone {
				continue
			}
			mustAnswerDrop(t, less, root, key, full, lastName(made), fdThere)
			mustNotDrop(t, joined(less, leafOf("filler", int64(i))), root, key, fdFull)
		}
	}
	full := cellsOfNodes(numberedLeaves(maxCells)...)
	mustAnswerDrop(t, full, nameOfNode(numberedLeaf(10)), "00a", full, 0, fdThere)
	mustNotDrop(t, full, nameOfNode(numberedLeaf(10)), "00b", fdNone)
	mustNotDrop(t, full, 0, "00a", fdNone)
	over := cellsOfNodes(append(numberedLeaves(maxCells-len(nodes)+1), nodes...)...)
	mustBeBadDrop(t, over, root, "2")
}

// P7: a new tree with just one node too many, of more that are added: none of them is there.
func TestP7FullHalfway(t *testing.T) {
	z := leafOf("z")
	nodes := []impl.Node{z, forkOf("v", kidAt(1, z), kidAt(2, z))}
	for _, ahead := range []int64{3, 4, 5, 6} {
		nodes = append(nodes, forkOf("v", kidAt(ahead, nodes[len(nodes)-1])))
	}
	root := lastName(nodes)
	for room := range 7 {
		cells := cellsOfNodes(append(numberedLeaves(maxCells-len(nodes)-room), nodes...)...)
		want := int64(fdFull)
		if room >= 5 {
			want = fdThere
		}
		if code := mustDropByWords(t, cells, root, "65431"); code != want {
			t.Fatalf("with room for %d the code is %d, want %d", room, code, want)
		}
	}
}

// P7: cells that are not CellsOk, also where the bad one is not on the way, and where the tree is the empty one.
func TestP7BadCells(t *testing.T) {
	root := nameOfNode(sampleNodes()[4])
	for _, cells := range badCells() {
		for _, name := range []int64{root, 0, 5, math.MaxInt64} {
			for _, key := range []string{"1a", "1ab", "2", "0"} {
				mustBeBadDrop(t, cells, name, key)
			}
		}
	}
}

// P7: a key that is not KeyOk, a root below 0, also one that is a name but for its sign.
func TestP7BadArguments(t *testing.T) {
	for _, cells := range someCells() {
		for _, root := range []int64{0, 5, nameOfNode(sampleNodes()[4]), nameOfNode(leafOf("a"))} {
			for _, key := range badKeys() {
				mustBeBadDrop(t, cells, root, key)
			}
		}
		bad := []int64{-1, -2, -1 << 31, math.MinInt64, math.MinInt64 + 1}
		for _, c := range cells {
			bad = append(bad, -c.Name, ^c.Name, c.Name|math.MinInt64)
		}
		for _, root := range bad {
			mustBeBadDrop(t, cells, root, "1a")
			mustBeBadDrop(t, cells, root, "000")
		}
	}
}

// P7: what is wrong with an argument goes ahead of all else, and what is not there ahead of what has no room, however many are wrong.
func TestP7WrongInTwoWays(t *testing.T) {
	nodes := sampleNodes()
	right, root := cellsOfNodes(nodes...), nameOfNode(nodes[4])
	bent := cloneCells(right)
	bent[0].Name++
	lost, _ := impl.Without(right, nameOfNode(nodes[0]))
	full := cellsOfNodes(append(numberedLeaves(maxCells-4), nodes[1:]...)...)
	for _, c := range []struct {
		cells []impl.Cell
		root  int64
		key   string
	}{
		{bent, 0, ""}, {bent, 0, "2"}, {bent, 5, "1a"}, {bent, -1, "1a"}, {bent, root, "1A"}, {bent, root, "4"}, {bent, -1, ""},
		{right, 0, ""}, {right, 0, "1A"}, {right, 5, "1A"}, {right, -1, "1a"}, {right, -1, "4"}, {right, -1, "g"}, {right, -1, ""}, {right, root, "123456789"},
		{nil, 0, ""}, {nil, 5, "g"}, {nil, -1, "1"}, {nil, -1, "g"},
		{lost, root, "1abA"}, {lost, root, "1ab000000"}, {lost, -1, "1ab"}, {lost, -root, "1ab"},
		{full, root, "2g"}, {full, -1, "2"}, {full, 0, "A"}, {full, 0, ""},
	} {
		mustBeBadDrop(t, c.cells, c.root, c.key)
	}
	for key, code := range map[string]int64{"1ab": fdLost, "1a": fdLost, "1abc": fdLost, "2": fdFull, "3": fdFull, "1": fdNone, "22": fdNone, "0": fdNone} {
		mustNotDrop(t, full, root, key, code)
	}
	mustNotDrop(t, full, 5, "1", fdLost)
	mustNotDrop(t, full, 0, "2", fdNone)
	mustNotDrop(t, lost, root, "1a", fdLost)
}

// P7: of drawn nodes in any shape, some of which are not there, with more or less room, the answer is what the document's words tell.
func TestP7DrawnNodes(t *testing.T) {
	r := rand.New(rand.NewSource(73))
	told := map[int64]int{}
	for range 120 {
		nodes, names := drawnStairs(r)
		kept := []impl.Node{}
		for _, n := range nodes {
			if r.Intn(12) > 0 {
				kept = append(kept, n)
			}
		}
		cells := cellsOfNodes(kept...)
		if r.Intn(2) == 0 {
			cells = joined(cells, numberedLeaves(max(0, maxCells-len(cells)-r.Intn(4)))...)
		}
		for range 12 {
			root := names[len(names)-1-r.Intn(min(8, len(names)))]
			keys := append(keysIn(cells, root), drawnKeyAmong(r, 3)) // most drawn keys are not there
			told[mustDropByWords(t, cells, root, keys[r.Intn(len(keys))])]++
		}
	}
	for _, code := range []int64{fdThere, fdNone, fdLost, fdFull} {
		if told[code] < 100 {
			t.Fatalf("the codes are told %v times", told)
		}
	}
}

// P19: whatever the arguments are, there is an answer: with one of the codes, what the document tells beside it, and the same again.
func TestP19DropInAnswersAlways(t *testing.T) {
	r := rand.New(rand.NewSource(74))
	pools := append(someCells(), badCells()...)
	for range 3000 {
		cells, root := drawnCells(r, pools)
		key := string(drawnBytes(r, 10))
		if r.Intn(5) > 0 {
			key = drawnKeyAmong(r, 16)
		}
		if keys := keysIn(cells, root); len(keys) > 0 && r.Intn(2) == 0 {
			key = keys[r.Intn(len(keys))]
		}
		if !impl.CellsOk(cells) || !impl.KeyOk(key) || root < 0 {
			mustBeBadDrop(t, cells, root, key)
		} else {
			mustDropByWords(t, cells, root, key)
		}
	}
}

// dropCall is cells and a call of DropIn on them.
type dropCall struct {
	cells []impl.Cell
	call  func(arg []impl.Cell) ([]impl.Cell, int64, int64)
}

// dropCalls are calls with each code.
func dropCalls() []dropCall {
	nodes := sampleNodes()
	lost, _ := impl.Without(cellsOfNodes(nodes...), nameOfNode(nodes[0]))
	full := cellsOfNodes(append(numberedLeaves(maxCells-len(nodes)), nodes...)...)
	calls := []dropCall{}
	for _, cells := range slices.Concat(someCells(), badCells()[:6], [][]impl.Cell{lost, full, cellsOfNodes(selfNamed(), selfForked())}) {
		for _, name := range []int64{nameOfNode(nodes[4]), nameOfNode(nodes[3]), nameOfNode(nodes[2]), 0, 5, -1, nameOfNode(selfNamed()), nameOfNode(selfForked()), nameOfNode(numberedLeaf(10))} {
			for _, key := range []string{"1a", "1ab", "1", "2", "4", "a", "ab", "b", "00a", "283283", "aa", "", "1A"} {
				calls = append(calls, dropCall{cells, func(arg []impl.Cell) ([]impl.Cell, int64, int64) { return impl.DropIn(arg, name, key) }})
			}
		}
	}
	return calls
}

// P19: the cells stay, and so does the spare room behind them, with each code; no answer depends on that room.
func TestP19DropInLeavesItsArguments(t *testing.T) {
	told := map[int64]int{}
	for _, c := range dropCalls() {
		cells, top, code := c.call(cloneCells(c.cells))
		told[code]++
		want := fmt.Sprintln(cells, top, code)
		mustLeave(t, c.cells, func(arg []impl.Cell) {
			cells, top, code := c.call(arg)
			if got := fmt.Sprintln(cells, top, code); got != want {
				t.Fatalf("of %v with spare room: %s, without: %s", c.cells, got, want)
			}
		})
	}
	for _, code := range []int64{fdThere, fdNone, fdLost, fdBad, fdFull} {
		if told[code] < 5 {
			t.Fatalf("the codes are told %v times", told)
		}
	}
}

// P19: the cells that are answered are new memory, with each code, also where they are as they are.
func TestP19DropInIsNewMemory(t *testing.T) {
	for _, c := range dropCalls() {
		mustBeNewCells(t, c.cells, func(arg []impl.Cell) []impl.Cell {
			cells, _, _ := c.call(arg)
			return cells
		})
	}
}
