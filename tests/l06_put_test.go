package tests

import (
	"cmp"
	"fmt"
	"math"
	"math/rand"
	"slices"
	"strings"
	"testing"

	"loop.example/g00754/impl"
)

const fdFull = 4

// badValues are not ValueOk.
func badValues() []string {
	return []string{"", "A", "aB", " ", "a ", " a", "a b", "-", "a=b", "\x00", "a\x00", "\n", "\xff", "é", "aé", "\u0661", "abcdefghij012", strings.Repeat("a", 256), strings.Repeat("a", 268), strings.Repeat("b", 70000)}
}

// joined are these cells and those of the nodes that are not among them.
func joined(cells []impl.Cell, made ...impl.Node) []impl.Cell {
	all := cloneCells(cells)
	for _, n := range made {
		all = append(all, cellOf(n))
	}
	sortCells(all)
	return slices.CompactFunc(all, sameCell)
}

// lastName is the root of a tree whose nodes are told from its leaves up.
func lastName(made []impl.Node) int64 {
	return nameOfNode(made[len(made)-1])
}

// mustAnswerPut asks for just this answer.
func mustAnswerPut(t *testing.T, cells []impl.Cell, root int64, key, value string, want []impl.Cell, top, code int64) {
	t.Helper()
	got, r, k := impl.PutIn(cells, root, key, value)
	if k != code || r != top || !sameCells(got, want) {
		t.Fatalf("PutIn(%v, %d, %q, %q) = %v, %d, %d, want %v, %d, %d", cells, root, key, value, got, r, k, want, top, code)
	}
}

// mustNotPut asks for the code, and the cells as they are, and root.
func mustNotPut(t *testing.T, cells []impl.Cell, root int64, key, value string, code int64) {
	t.Helper()
	mustAnswerPut(t, cells, root, key, value, cells, root, code)
}

// mustBeBadPut asks for FdBad, no cells and no root.
func mustBeBadPut(t *testing.T, cells []impl.Cell, root int64, key, value string) {
	t.Helper()
	mustAnswerPut(t, cells, root, key, value, nil, 0, fdBad)
}

// mustPut asks for the cells and just these nodes, of which the last one is the root; that the key is found, each other one as it was, and in the old tree each one as it was.
func mustPut(t *testing.T, cells []impl.Cell, root int64, key, value string, made ...impl.Node) ([]impl.Cell, int64) {
	t.Helper()
	want, top := joined(cells, made...), lastName(made)
	mustAnswerPut(t, cells, root, key, value, want, top, fdThere)
	if !impl.CellsOk(want) {
		t.Fatalf("CellsOk(%v) is false", want)
	}
	mustFind(t, want, top, key, value, fdThere)
	others := slices.Concat(keysNear(key), keysIn(cells, root), keysIn(want, top))
	slices.Sort(others)
	for _, other := range slices.Compact(others) {
		v, k := impl.Found(cells, root, other)
		if k == fdLost { // what was not there may be among the new nodes
			continue
		}
		mustFind(t, want, root, other, v, k)
		if other != key {
			mustFind(t, want, top, other, v, k)
		}
	}
	return want, top
}

// thereIn is each node under its name.
func thereIn(cells []impl.Cell) map[int64]impl.Node {
	there := map[int64]impl.Node{}
	for _, c := range cells {
		there[c.Name], _ = impl.NodeFrom(c.Bytes)
	}
	return there
}

// keysIn are the keys at which the tree has a value.
func keysIn(cells []impl.Cell, root int64) []string {
	there, keys := thereIn(cells), []string{}
	var walk func(name int64, key string)
	walk = func(name int64, key string) {
		n := there[name]
		key += digitsOf(n.Path)
		if len(key) > 8 {
			return
		}
		if n.Value != "" && key != "" {
			keys = append(keys, key)
		}
		for _, kid := range n.Kids {
			if n.Kind == 3 {
				walk(kid.Name, key+digitsOf([]int64{kid.At}))
			} else {
				walk(kid.Name, key)
			}
		}
	}
	walk(root, "")
	return keys
}

// madeByWords is the document's words, over the digits of the key: the nodes of the new tree that are made, from its leaves up; false where a node on the way is not there.
func madeByWords(there map[int64]impl.Node, name int64, rest, value string) ([]impl.Node, bool) {
	n, is := there[name]
	path := digitsOf(n.Path)
	switch {
	case name == 0:
		return []impl.Node{leafOf(value, worths(rest)...)}, true
	case !is:
		return nil, false
	case n.Kind == 1:
		nodes, _ := planted(map[string]string{path: n.Value, rest: value})
		return nodes, true
	case n.Kind == 2 && strings.HasPrefix(rest, path):
		made, is := madeByWords(there, n.Kids[0].Name, rest[len(path):], value)
		if !is {
			return nil, false
		}
		return append(made, stemOf(lastName(made), n.Path...)), true
	case n.Kind == 2:
		return partedByWords(path, n.Kids[0].Name, rest, value), true
	case rest == "":
		return []impl.Node{forkOf(value, n.Kids...)}, true
	}
	names := map[int64]int64{}
	for _, kid := range n.Kids {
		names[kid.At] = kid.Name
	}
	at := worths(rest)[0]
	made, is := madeByWords(there, names[at], rest[1:], value)
	if !is {
		return nil, false
	}
	names[at] = lastName(made)
	return append(made, forkOf(n.Value, kidsOf(names)...)), true
}

// partedByWords is a fork of what is left of a stem and of a path that parts from it, and a stem to it where they have something in common.
func partedByWords(path string, kid int64, rest, value string) []impl.Node {
	same := 0
	for same < len(path) && same < len(rest) && path[same] == rest[same] {
		same++
	}
	made, names, here := []impl.Node{}, map[int64]int64{}, ""
	if others := path[same+1:]; others != "" {
		made = append(made, stemOf(kid, worths(others)...))
		kid = lastName(made)
	}
	names[worths(path)[same]] = kid
	if same == len(rest) {
		here = value
	} else {
		made = append(made, leafOf(value, worths(rest[same+1:])...))
		names[worths(rest)[same]] = lastName(made)
	}
	made = append(made, forkOf(here, kidsOf(names)...))
	if same > 0 {
		made = append(made, stemOf(lastName(made), worths(path[:same])...))
	}
	return made
}

// kidsOf are the Kids under these names, by their numbers.
func kidsOf(names map[int64]int64) []impl.Kid {
	kids := []impl.Kid{}
	for at, name := range names {
		kids = append(kids, impl.Kid{At: at, Name: name})
	}
	slices.SortFunc(kids, func(a, b impl.Kid) int { return cmp.Compare(a.At, b.At) })
	return kids
}

// mustPutByWords asks for what the document's words tell, whatever it is; the code is answered.
func mustPutByWords(t *testing.T, cells []impl.Cell, root int64, key, value string) int64 {
	t.Helper()
	made, is := madeByWords(thereIn(cells), root, key, value)
	switch {
	case !is:
		mustNotPut(t, cells, root, key, value, fdLost)
		return fdLost
	case len(joined(cells, made...)) > maxCells:
		mustNotPut(t, cells, root, key, value, fdFull)
		return fdFull
	}
	mustPut(t, cells, root, key, value, made...)
	return fdThere
}

// placed is a node at the root, below a stem and below a fork: the cells, the root, what is ahead of its keys, and what the new tree of it goes on with.
type placed struct {
	cells []impl.Cell
	root  int64
	ahead string
	above func(made []impl.Node) []impl.Node
}

func places(nodes ...impl.Node) []placed {
	name, other := lastName(nodes), leafOf("other", 6)
	s := func(name int64) impl.Node { return stemOf(name, 4, 5) }
	f := func(name int64) impl.Node {
		return forkOf("", impl.Kid{At: 3, Name: name}, impl.Kid{At: 6, Name: nameOfNode(other)})
	}
	deep := func(name int64) impl.Node { return stemOf(nameOfNode(f(name)), 9) }
	with := func(list []impl.Node, n impl.Node) []impl.Node { return append(slices.Clone(list), n) }
	return []placed{
		{cellsOfNodes(nodes...), name, "", func(made []impl.Node) []impl.Node { return made }},
		{cellsOfNodes(with(nodes, s(name))...), nameOfNode(s(name)), "45", func(made []impl.Node) []impl.Node { return with(made, s(lastName(made))) }},
		{cellsOfNodes(append(with(nodes, f(name)), other)...), nameOfNode(f(name)), "3", func(made []impl.Node) []impl.Node { return with(made, f(lastName(made))) }},
		{cellsOfNodes(append(with(nodes, f(name)), other, deep(name))...), nameOfNode(deep(name)), "93", func(made []impl.Node) []impl.Node {
			return append(with(made, f(lastName(made))), deep(lastName(made)))
		}},
	}
}

// P6, by hand: from nothing up to the tree of sampleNodes.
func TestP6ByHand(t *testing.T) {
	y, z := leafOf("y"), leafOf("z")
	far := leafOf("y", 1, 10, 11)
	cells, root := mustPut(t, nil, 0, "1ab", "y", far)
	below := leafOf("y", 10, 11)
	first := forkOf("", impl.Kid{At: 1, Name: nameOfNode(below)}, impl.Kid{At: 2, Name: nameOfNode(z)})
	cells, root = mustPut(t, cells, root, "2", "z", below, z, first)
	one := forkOf("x", impl.Kid{At: 11, Name: nameOfNode(y)})
	a := stemOf(nameOfNode(one), 10)
	second := forkOf("", impl.Kid{At: 1, Name: nameOfNode(a)}, impl.Kid{At: 2, Name: nameOfNode(z)})
	cells, root = mustPut(t, cells, root, "1a", "x", y, one, a, second)
	third := forkOf("", impl.Kid{At: 1, Name: nameOfNode(a)}, impl.Kid{At: 2, Name: nameOfNode(z)}, impl.Kid{At: 3, Name: nameOfNode(z)})
	cells, root = mustPut(t, cells, root, "3", "z", third)
	if root != nameOfNode(sampleNodes()[4]) || len(cells) != 9 {
		t.Fatalf("the root is %d, with %d cells", root, len(cells))
	}
	fourth := forkOf("", impl.Kid{At: 1, Name: nameOfNode(a)}, impl.Kid{At: 2, Name: nameOfNode(leafOf("q"))}, impl.Kid{At: 3, Name: nameOfNode(z)})
	cells, next := mustPut(t, cells, root, "2", "q", leafOf("q"), fourth)
	mustHoldMap(t, cells, next, map[string]string{"1a": "x", "1ab": "y", "2": "q", "3": "z"}, keysOver("0123ab", 3))
	mustHoldMap(t, cells, root, map[string]string{"1a": "x", "1ab": "y", "2": "z", "3": "z"}, keysOver("0123ab", 3))
	mustHoldMap(t, cells, nameOfNode(second), map[string]string{"1a": "x", "1ab": "y", "2": "z"}, keysOver("0123ab", 3))
	mustHoldMap(t, cells, nameOfNode(far), map[string]string{"1ab": "y"}, keysOver("0123ab", 3))
}

// orders are all orders of these keys.
func orders(keys []string) [][]string {
	if len(keys) == 0 {
		return [][]string{{}}
	}
	list := [][]string{}
	for i := range keys {
		others := slices.Delete(slices.Clone(keys), i, i+1)
		for _, behind := range orders(others) {
			list = append(list, append([]string{keys[i]}, behind...))
		}
	}
	return list
}

// P6: ordinary maps, put in each order: each time what was put is found and all else is as it was, and the last tree is the same.
func TestP6EachOrder(t *testing.T) {
	for _, pairs := range []map[string]string{
		{"1a": "x", "1ab": "y", "2": "z", "3": "z"},
		{"0": "a", "00": "b", "000": "c", "0000": "d", "00000000": "e"},
		{"f": "a", "fff": "b", "ffe": "c", "0ff": "d"},
		{"123": "a", "124": "b", "135": "c", "1": "d", "12": "e"},
		{"12345678": "far", "123": "near", "12345679": "next", "92345678": "away"},
		{"abcdef": "same", "abcdee": "same", "abc": "same", "ab": "same"},
	} {
		keys := []string{}
		for key := range pairs {
			keys = append(keys, key)
		}
		nodes, want := planted(pairs)
		for _, order := range orders(keys) {
			cells, root, so := []impl.Cell{}, int64(0), map[string]string{}
			for _, key := range order {
				so[key] = pairs[key]
				made, _ := planted(so)
				cells, root = mustPut(t, cells, root, key, pairs[key], made...)
			}
			reached, whole := impl.ReachOf(cells, []int64{root})
			if root != want || !whole || len(reached) != len(cellsOfNodes(nodes...)) {
				t.Fatalf("put in the order %v the root is %d, want %d", order, root, want)
			}
		}
	}
}

// P6: drawn maps, in drawn orders, some keys more than once; the cells are the old ones and the nodes of the tree that the whole map has.
func TestP6DrawnMaps(t *testing.T) {
	r := rand.New(rand.NewSource(61))
	told := map[int64]int{}
	for range 80 {
		pairs := drawnMap(r, 26)
		keys := []string{}
		for key := range pairs {
			keys = append(keys, key)
		}
		slices.Sort(keys)
		keys = append(keys, keys...)
		r.Shuffle(len(keys), func(i, k int) { keys[i], keys[k] = keys[k], keys[i] })
		so, cells, root := map[string]string{}, []impl.Cell{}, int64(0)
		for _, key := range keys {
			value := pairs[key]
			if r.Intn(3) == 0 {
				value = drawnKeyAmong(r, 16)
			}
			old, was := behind(so, ""), root
			so[key] = value
			made, top := planted(so)
			if len(joined(cells, made...)) > maxCells {
				mustNotPut(t, cells, root, key, value, fdFull)
				told[fdFull]++
				nodes, _ := planted(old)
				cells = cellsOfNodes(nodes...)
			}
			want := joined(cells, made...)
			if len(want) > maxCells {
				break
			}
			mustAnswerPut(t, cells, root, key, value, want, top, fdThere)
			told[fdThere]++
			cells, root = want, top
			mustHoldMap(t, cells, top, so, keysNear(key)[:10])
			mustHoldMap(t, cells, was, old, nil)
		}
	}
	if told[fdThere] < 1000 || told[fdFull] < 20 {
		t.Fatalf("the codes are told %v times", told)
	}
}

// P6: the same value put again makes the same tree, also where there is no room; another value at the same key does not stay beside the first one.
func TestP6PutAgain(t *testing.T) {
	r := rand.New(rand.NewSource(62))
	for range 60 {
		pairs := drawnMap(r, 20)
		nodes, root := planted(pairs)
		cells := cellsOfNodes(nodes...)
		full := cellsOfNodes(append(numberedLeaves(maxCells-len(cells)), nodes...)...)
		for key, value := range pairs {
			mustAnswerPut(t, cells, root, key, value, cells, root, fdThere)
			if len(full) == maxCells {
				mustAnswerPut(t, full, root, key, value, full, root, fdThere)
			}
			other := behind(pairs, "")
			other[key] = "other"
			made, _ := planted(other)
			if len(joined(cells, made...)) > maxCells {
				continue
			}
			next, top := mustPut(t, cells, root, key, "other", made...)
			mustFind(t, next, root, key, value, fdThere)
			mustAnswerPut(t, next, top, key, value, next, root, fdThere)
		}
	}
}

// P6: into the empty tree a leaf is put with the whole path, whatever the cells are.
func TestP6RootZero(t *testing.T) {
	for _, cells := range someCells() {
		if len(cells) == maxCells {
			continue
		}
		for _, key := range []string{"0", "f", "1a", "00", "12345678", "00000000", "ffffffff"} {
			for _, value := range []string{"a", "0", "abcdefghij09", "zzzzzzzzzzzz"} {
				next, top := mustPut(t, cells, 0, key, value, leafOf(value, worths(key)...))
				mustAnswerPut(t, next, 0, key, value, next, top, fdThere)
			}
		}
	}
	full := cellsOfNodes(numberedLeaves(maxCells)...)
	mustAnswerPut(t, full, 0, "00a", "v", full, nameOfNode(numberedLeaf(10)), fdThere)
	mustNotPut(t, full, 0, "00a", "w", fdFull)
	mustNotPut(t, full, 0, "0a", "v", fdFull)
}

// P6: a leaf whose Path is the path, the beginning of it, or longer, or that parts from it at once or behind a few numbers; at the root and below other nodes.
func TestP6Leaves(t *testing.T) {
	end, newEnd := nameOfNode(leafOf("old")), nameOfNode(leafOf("new"))
	at := func(at, name int64) impl.Kid { return impl.Kid{At: at, Name: name} }
	l := leafOf
	named := nameOfNode
	for _, c := range []struct {
		path, rest string
		made       []impl.Node
	}{
		{"", "", []impl.Node{l("new")}},
		{"7", "7", []impl.Node{l("new", 7)}},
		{"123456", "123456", []impl.Node{l("new", 1, 2, 3, 4, 5, 6)}},
		{"", "7", []impl.Node{l("new"), forkOf("old", at(7, newEnd))}},
		{"", "0123", []impl.Node{l("new", 1, 2, 3), forkOf("old", at(0, named(l("new", 1, 2, 3))))}},
		{"1", "12", []impl.Node{l("new"), forkOf("old", at(2, newEnd)), stemOf(named(forkOf("old", at(2, newEnd))), 1)}},
		{"12", "1200f", []impl.Node{l("new", 0, 15), forkOf("old", at(0, named(l("new", 0, 15)))), stemOf(named(forkOf("old", at(0, named(l("new", 0, 15))))), 1, 2)}},
		{"7", "", []impl.Node{l("old"), forkOf("new", at(7, end))}},
		{"0123", "", []impl.Node{l("old", 1, 2, 3), forkOf("new", at(0, named(l("old", 1, 2, 3))))}},
		{"12", "1", []impl.Node{l("old"), forkOf("new", at(2, end)), stemOf(named(forkOf("new", at(2, end))), 1)}},
		{"1234567f", "1234", []impl.Node{l("old", 6, 7, 15), forkOf("new", at(5, named(l("old", 6, 7, 15)))), stemOf(named(forkOf("new", at(5, named(l("old", 6, 7, 15))))), 1, 2, 3, 4)}},
		{"1", "2", []impl.Node{l("old"), l("new"), forkOf("", at(1, end), at(2, newEnd))}},
		{"f", "0", []impl.Node{l("old"), l("new"), forkOf("", at(0, newEnd), at(15, end))}},
		{"123", "423", []impl.Node{l("old", 2, 3), l("new", 2, 3), forkOf("", at(1, named(l("old", 2, 3))), at(4, named(l("new", 2, 3))))}},
		{"123", "0", []impl.Node{l("old", 2, 3), l("new"), forkOf("", at(0, newEnd), at(1, named(l("old", 2, 3))))}},
		{"124", "123", []impl.Node{l("old"), l("new"), forkOf("", at(3, newEnd), at(4, end)), stemOf(named(forkOf("", at(3, newEnd), at(4, end))), 1, 2)}},
		{"1234", "1534", []impl.Node{l("old", 3, 4), l("new", 3, 4), forkOf("", at(2, named(l("old", 3, 4))), at(5, named(l("new", 3, 4)))), stemOf(named(forkOf("", at(2, named(l("old", 3, 4))), at(5, named(l("new", 3, 4))))), 1)}},
		{"000001", "00001", []impl.Node{l("old", 1), l("new"), forkOf("", at(0, named(l("old", 1))), at(1, newEnd)), stemOf(named(forkOf("", at(0, named(l("old", 1))), at(1, newEnd))), 0, 0, 0, 0)}},
	} {
		for _, p := range places(leafOf("old", worths(c.path)...)) {
			if key := p.ahead + c.rest; impl.KeyOk(key) {
				mustPut(t, p.cells, p.root, key, "new", p.above(c.made)...)
			}
		}
	}
}

// P6: the same paths again, each with each, over the document's words; the value is another one or the same.
func TestP6EachLeafPath(t *testing.T) {
	for _, path := range append(keysOver("07", 3), "", "00000000", "07070707", "77777777", "123") {
		for _, p := range places(leafOf("old", worths(path)...)) {
			for _, rest := range append(keysOver("07", 3), "", "0000000", "0707070", "00000000", "70707070", "77777777", "124", "12", "1234") {
				if key := p.ahead + rest; impl.KeyOk(key) {
					mustPutByWords(t, p.cells, p.root, key, "new")
					mustPutByWords(t, p.cells, p.root, key, "old")
				}
			}
		}
	}
}

// P6: a stem whose Path is at the beginning of the path goes on from its Kid; one whose Path goes on behind it, or parts from it at its first, a middle or its last number, gives a fork.
func TestP6Stems(t *testing.T) {
	end := leafOf("end")
	f := forkOf("here", impl.Kid{At: 7, Name: nameOfNode(end)})
	kid := nameOfNode(f)
	at := func(at, name int64) impl.Kid { return impl.Kid{At: at, Name: name} }
	l, n, s, fo := leafOf, nameOfNode, stemOf, forkOf
	newEnd := n(l("new"))
	changed, grown := fo("new", at(7, n(end))), fo("here", at(3, n(l("new", 4))), at(7, n(end)))
	for _, c := range []struct {
		path, rest string
		made       []impl.Node
	}{
		{"1", "1", []impl.Node{changed, s(n(changed), 1)}},
		{"12", "12", []impl.Node{changed, s(n(changed), 1, 2)}},
		{"12", "1234", []impl.Node{l("new", 4), grown, s(n(grown), 1, 2)}},
		{"12", "127", []impl.Node{l("new"), fo("here", at(7, newEnd)), s(n(fo("here", at(7, newEnd))), 1, 2)}},
		{"1", "", []impl.Node{fo("new", at(1, kid))}},
		{"12", "", []impl.Node{s(kid, 2), fo("new", at(1, n(s(kid, 2))))}},
		{"12", "1", []impl.Node{fo("new", at(2, kid)), s(n(fo("new", at(2, kid))), 1)}},
		{"0000", "0", []impl.Node{s(kid, 0, 0), fo("new", at(0, n(s(kid, 0, 0)))), s(n(fo("new", at(0, n(s(kid, 0, 0))))), 0)}},
		{"1", "4", []impl.Node{l("new"), fo("", at(1, kid), at(4, newEnd))}},
		{"1", "0ab", []impl.Node{l("new", 10, 11), fo("", at(0, n(l("new", 10, 11))), at(1, kid))}},
		{"123", "423", []impl.Node{s(kid, 2, 3), l("new", 2, 3), fo("", at(1, n(s(kid, 2, 3))), at(4, n(l("new", 2, 3))))}},
		{"123", "0", []impl.Node{s(kid, 2, 3), l("new"), fo("", at(0, newEnd), at(1, n(s(kid, 2, 3))))}},
		{"123", "143", []impl.Node{s(kid, 3), l("new", 3), fo("", at(2, n(s(kid, 3))), at(4, n(l("new", 3)))), s(n(fo("", at(2, n(s(kid, 3))), at(4, n(l("new", 3))))), 1)}},
		{"12345", "1203", []impl.Node{s(kid, 4, 5), l("new", 3), fo("", at(0, n(l("new", 3))), at(3, n(s(kid, 4, 5)))), s(n(fo("", at(0, n(l("new", 3))), at(3, n(s(kid, 4, 5))))), 1, 2)}},
		{"123", "124", []impl.Node{l("new"), fo("", at(3, kid), at(4, newEnd)), s(n(fo("", at(3, kid), at(4, newEnd))), 1, 2)}},
		{"123", "12055", []impl.Node{l("new", 5, 5), fo("", at(0, n(l("new", 5, 5))), at(3, kid)), s(n(fo("", at(0, n(l("new", 5, 5))), at(3, kid))), 1, 2)}},
		{"12345678", "1234567", []impl.Node{fo("new", at(8, kid)), s(n(fo("new", at(8, kid))), 1, 2, 3, 4, 5, 6, 7)}},
		{"12345678", "123456f8", []impl.Node{s(kid, 8), l("new", 8), fo("", at(7, n(s(kid, 8))), at(15, n(l("new", 8)))), s(n(fo("", at(7, n(s(kid, 8))), at(15, n(l("new", 8))))), 1, 2, 3, 4, 5, 6)}},
	} {
		for _, p := range places(end, f, stemOf(kid, worths(c.path)...)) {
			if key := p.ahead + c.rest; impl.KeyOk(key) {
				mustPut(t, p.cells, p.root, key, "new", p.above(c.made)...)
			}
		}
	}
}

// P6: stems to a leaf, a stem and a fork, each Path with each path, over the document's words.
func TestP6EachStemPath(t *testing.T) {
	end := leafOf("end", 7)
	s := stemOf(nameOfNode(end), 0)
	f := forkOf("here", impl.Kid{At: 7, Name: nameOfNode(end)})
	for _, kid := range []impl.Node{end, s, f} {
		for _, path := range append(keysOver("07", 3), "07070707", "123") {
			for _, p := range places(end, s, f, stemOf(nameOfNode(kid), worths(path)...)) {
				for _, rest := range append(keysOver("07", 3), "", "0000", "0070", "7770", "0707070", "07070707", "07070700", "124", "12", "1237", "12307") {
					if key := p.ahead + rest; impl.KeyOk(key) {
						mustPutByWords(t, p.cells, p.root, key, "new")
					}
				}
			}
		}
	}
}

// P6: a fork with nothing left, with a Value, which is not there any more, and without one.
func TestP6ForkValues(t *testing.T) {
	end := leafOf("end")
	for _, old := range []string{"", "old", "new"} {
		f := forkOf(old, impl.Kid{At: 0, Name: nameOfNode(end)}, impl.Kid{At: 15, Name: nameOfNode(end)})
		for _, p := range places(end, f)[1:] {
			made := p.above([]impl.Node{forkOf("new", f.Kids...)})
			next, top := mustPut(t, p.cells, p.root, p.ahead, "new", made...)
			mustFindAll(t, next, top, []string{p.ahead + "0", p.ahead + "f"}, "end", fdThere)
			mustFindAll(t, next, top, []string{p.ahead + "1", p.ahead + "00"}, "", fdNone)
		}
	}
}

// P6: a fork without a Kid at the next number, ahead of, between and behind those that it has; and with one.
func TestP6ForkKids(t *testing.T) {
	kids, nodes := []impl.Kid{}, []impl.Node{}
	for _, at := range []int64{2, 3, 9, 14} {
		nodes = append(nodes, leafOf("kid", at, at))
		kids = append(kids, impl.Kid{At: at, Name: nameOfNode(leafOf("kid", at, at))})
	}
	for _, value := range []string{"", "here"} {
		f := forkOf(value, kids...)
		for _, p := range places(append(slices.Clone(nodes), f)...) {
			for at := range int64(16) {
				if slices.Contains([]int64{2, 3, 9, 14}, at) {
					continue
				}
				for _, rest := range []string{"", "0", "abc"} {
					l := leafOf("new", worths(rest)...)
					place, _ := slices.BinarySearchFunc(kids, at, func(k impl.Kid, at int64) int { return cmp.Compare(k.At, at) })
					more := slices.Insert(slices.Clone(kids), place, impl.Kid{At: at, Name: nameOfNode(l)})
					mustPut(t, p.cells, p.root, p.ahead+hexDigits[at:at+1]+rest, "new", p.above([]impl.Node{l, forkOf(value, more...)})...)
				}
			}
			for i, at := range []int64{2, 3, 9, 14} {
				l := leafOf("new", at, at)
				same := slices.Clone(kids)
				same[i].Name = nameOfNode(l)
				mustPut(t, p.cells, p.root, p.ahead+strings.Repeat(hexDigits[at:at+1], 3), "new", p.above([]impl.Node{l, forkOf(value, same...)})...)
			}
		}
	}
}

// P6: forks of many shapes, up to sixteen Kids, over the document's words.
func TestP6EachForkKid(t *testing.T) {
	end := leafOf("end", 4)
	for mask := 1; mask < 1<<16; mask = mask*5/3 + 1 {
		f := forkOf("here")
		for at := range int64(16) {
			if mask>>at&1 == 1 {
				f.Kids = append(f.Kids, impl.Kid{At: at, Name: nameOfNode(end)})
			}
		}
		for _, key := range append(keysOver(hexDigits, 1), "04", "44", "f4", "4444", "b") {
			mustPutByWords(t, cellsOfNodes(end, f), nameOfNode(f), key, "new")
		}
	}
}

// P6: a node of the new tree that is among the cells already is not put there again, whether it is of the old tree or not; one that is not is put.
func TestP6AmongTheCells(t *testing.T) {
	l, f := leafOf("old"), forkOf("", impl.Kid{At: 1, Name: nameOfNode(leafOf("old"))}, impl.Kid{At: 2, Name: nameOfNode(leafOf("new"))})
	made := []impl.Node{l, leafOf("new"), f}
	one := leafOf("old", 1)
	for mask := range 8 {
		cells := cellsOfNodes(one, leafOf("other"))
		for i, n := range made {
			if mask>>i&1 == 1 {
				cells = joined(cells, n)
			}
		}
		next, _ := mustPut(t, cells, nameOfNode(one), "2", "new", made...)
		if len(next) != 5 {
			t.Fatalf("%d cells, want 5", len(next))
		}
		mustAnswerPut(t, next, nameOfNode(one), "2", "new", next, nameOfNode(f), fdThere)
	}
	same := leafOf("z")
	twice := forkOf("", impl.Kid{At: 1, Name: nameOfNode(same)}, impl.Kid{At: 2, Name: nameOfNode(same)})
	mustPut(t, cellsOfNodes(leafOf("z", 1)), nameOfNode(leafOf("z", 1)), "2", "z", same, twice)
	nodes := sampleNodes()
	root := nodes[4]
	more := forkOf("", append(slices.Clone(root.Kids), impl.Kid{At: 4, Name: nameOfNode(nodes[0])})...)
	mustPut(t, cellsOfNodes(nodes...), nameOfNode(root), "4", "y", more)
}

// P6: a node on the way that is not there, at the root, below a stem and below a fork, whatever is left; the same node off the way does not matter, and is not put.
func TestP6LostOnTheWay(t *testing.T) {
	end := leafOf("end")
	s := stemOf(5, 1, 2)
	f := forkOf("here", impl.Kid{At: 3, Name: 6}, impl.Kid{At: 4, Name: nameOfNode(end)}, impl.Kid{At: 9, Name: nameOfNode(s)})
	cells := cellsOfNodes(end, s, f)
	for _, root := range []int64{1, 5, math.MaxInt64, nameOfNode(leafOf("nothere"))} {
		for _, cells := range append(someCells(), cells) {
			for _, key := range []string{"0", "12", "12345678"} {
				mustNotPut(t, cells, root, key, "new", fdLost)
			}
		}
	}
	for _, key := range []string{"12", "120", "12345678"} {
		mustNotPut(t, cells, nameOfNode(s), key, "new", fdLost)
	}
	for _, key := range []string{"3", "30", "3fffffff", "912", "9120"} {
		mustNotPut(t, cells, nameOfNode(f), key, "new", fdLost)
	}
	for key, kind := range map[string]int64{"1": 2, "2": 3, "13": 2, "0": 3, "112": 2} {
		mustPutByWords(t, cells, nameOfNode(s), key, "new")
		next, top, _ := impl.PutIn(cells, nameOfNode(s), key, "new")
		mustFindAll(t, next, top, []string{"12", "123"}, "", fdLost)
		if n, _ := impl.NodeAt(next, top); n.Kind != kind {
			t.Fatalf("the root is %v", n)
		}
	}
	for _, key := range []string{"0", "4", "44", "5", "9", "91", "913", "f12"} {
		mustPutByWords(t, cells, nameOfNode(f), key, "new")
		next, top, code := impl.PutIn(cells, nameOfNode(f), key, "new")
		if code != fdThere {
			t.Fatalf("the code is %d", code)
		}
		mustFindAll(t, next, top, []string{"3", "333", "912"}, "", fdLost)
	}
}

// P6: in the tree made by hand, without one of its nodes: just the keys whose way goes there are lost.
func TestP6OneNodeGone(t *testing.T) {
	nodes := sampleNodes()
	root := nameOfNode(nodes[4])
	keys := []string{"1", "1a", "1ab", "2", "3", "1b", "1ac", "1abc", "22", "0"}
	for i, lost := range [][]string{{"1ab", "1abc"}, {"2", "3", "22"}, {"1a", "1ab", "1ac", "1abc"}, {"1", "1a", "1ab", "1b", "1ac", "1abc"}, keys} {
		less := cellsOfNodes(slices.Delete(slices.Clone(nodes), i, i+1)...)
		for _, key := range keys {
			want := int64(fdThere)
			if slices.Contains(lost, key) {
				want = fdLost
			}
			for _, value := range []string{"new", "x", "y", "z"} {
				if code := mustPutByWords(t, less, root, key, value); code != want {
					t.Fatalf("the code of %q is %d, want %d", key, code, want)
				}
			}
		}
	}
}

// P6: what is put may be the node that is not there, yet it does not help on the way.
func TestP6LostIsPut(t *testing.T) {
	l := leafOf("z")
	f := forkOf("", impl.Kid{At: 1, Name: nameOfNode(l)}, impl.Kid{At: 2, Name: nameOfNode(leafOf("q"))})
	cells := cellsOfNodes(f, leafOf("q"))
	mustNotPut(t, cells, nameOfNode(f), "1", "z", fdLost)
	more := forkOf("", impl.Kid{At: 1, Name: nameOfNode(l)}, impl.Kid{At: 2, Name: nameOfNode(leafOf("q"))}, impl.Kid{At: 3, Name: nameOfNode(l)})
	next, top := mustPut(t, cells, nameOfNode(f), "3", "z", l, more)
	mustFindAll(t, next, top, []string{"1", "3"}, "z", fdThere)
}

// P6: nodes that are reached from themselves; the answer still comes, the old node stays, and each time it is gone through gives a node of its own.
func TestP6ReachedFromItself(t *testing.T) {
	s, f := selfNamed(), selfForked()
	self, cells := nameOfNode(s), cellsOfNodes(s, f)
	at := func(at, name int64) impl.Kid { return impl.Kid{At: at, Name: name} }
	stair := func(nodes ...impl.Node) []impl.Node { return append(nodes, stemOf(lastName(nodes), 2, 8, 3)) }
	cut := forkOf("new", at(3, self))
	mustPut(t, cells, self, "28328", "new", stair(cut, stemOf(nameOfNode(cut), 2, 8))...)
	whole := forkOf("new", at(2, nameOfNode(stemOf(self, 8, 3))))
	mustPut(t, cells, self, "283", "new", stair(stemOf(self, 8, 3), whole)...)
	mustPut(t, cells, self, "283283", "new", stair(stair(stemOf(self, 8, 3), whole)...)...)
	parts := forkOf("", at(7, nameOfNode(leafOf("new"))), at(8, nameOfNode(stemOf(self, 3))))
	mustPut(t, cells, self, "28328327", "new", stair(stair(leafOf("new"), stemOf(self, 3), parts, stemOf(nameOfNode(parts), 2))...)...)
	for size := 1; size <= 8; size++ {
		made := []impl.Node{forkOf("new", f.Kids...)}
		for range size {
			made = append(made, forkOf(f.Value, at(10, lastName(made))))
		}
		mustPut(t, cells, nameOfNode(f), strings.Repeat("a", size), "new", made...)
		mustAnswerPut(t, cells, nameOfNode(f), strings.Repeat("a", size), f.Value, cells, nameOfNode(f), fdThere)
		made = []impl.Node{leafOf("new"), forkOf(f.Value, f.Kids[0], at(11, nameOfNode(leafOf("new"))))}
		for range size - 1 {
			made = append(made, forkOf(f.Value, at(10, lastName(made))))
		}
		mustPut(t, cells, nameOfNode(f), strings.Repeat("a", size-1)+"b", "new", made...)
	}
	for _, key := range keysOver("28", 6) {
		mustPutByWords(t, cells, self, key, "new")
	}
}

// P6: MaxCells met exactly, and passed by one, with each count of new nodes; what is there already needs no room.
func TestP6MaxCells(t *testing.T) {
	nodes := sampleNodes()
	root := nameOfNode(nodes[4])
	for key, count := range map[string]int{"2": 2, "1ab": 4, "1a": 3, "4": 2, "1c": 3, "1abc": 5, "1": 2, "14567": 3} {
		for _, value := range []string{"new", "y"} {
			made, _ := madeByWords(thereIn(cellsOfNodes(nodes...)), root, key, value)
			more := len(joined(cellsOfNodes(nodes...), made...)) - len(nodes)
			if value == "new" && more != count {
				t.Fatalf("%q needs %d new nodes, want %d", key, more, count)
			}
			for room := range more + 2 {
				cells := cellsOfNodes(append(numberedLeaves(maxCells-len(nodes)-room), nodes...)...)
				if room < more {
					mustNotPut(t, cells, root, key, value, fdFull)
					continue
				}
				next, top := mustPut(t, cells, root, key, value, made...)
				if len(next) != maxCells-room+more {
					t.Fatalf("%d cells", len(next))
				}
				mustAnswerPut(t, next, top, key, value, next, top, fdThere)
			}
			full := joined(cellsOfNodes(append(numberedLeaves(maxCells-len(nodes)-more), nodes...)...), made...)
			mustAnswerPut(t, full, root, key, value, full, lastName(made), fdThere)
			for i, n := range made { // one of them gone, and another one in its place: too many by one
				less, gone := impl.Without(full, nameOfNode(n))
				if slices.ContainsFunc(nodes, func(m impl.Node) bool { return sameNode(m, n) }) || !gone {
					continue
				}
				mustAnswerPut(t, less, root, key, value, full, lastName(made), fdThere)
				mustNotPut(t, joined(less, leafOf("filler", int64(i))), root, key, value, fdFull)
			}
		}
	}
	over := cellsOfNodes(append(numberedLeaves(maxCells-len(nodes)+1), nodes...)...)
	mustBeBadPut(t, over, root, "2", "z")
}

// P6: no node of a new tree is past a limit of its own, also where the Paths are as long as can be, and lie below another: FdFull is told for want of cells only.
func TestP6LongestPaths(t *testing.T) {
	long := []int64{1, 2, 3, 4, 5, 6, 7, 8}
	l := leafOf("abcdefghij09", long...)
	s := stemOf(nameOfNode(l), long...)
	f := forkOf("zzzzzzzzzzzz", kidsOf(map[int64]int64{0: nameOfNode(l), 15: nameOfNode(s)})...)
	under := stemOf(nameOfNode(s), 1)
	wide := forkOf("zzzzzzzzzzzz")
	for at := range int64(16) {
		wide.Kids = append(wide.Kids, impl.Kid{At: at, Name: nameOfNode(l)})
	}
	cells := cellsOfNodes(l, s, f, under, wide)
	for _, n := range []impl.Node{l, s, f, under, wide} {
		for size := 1; size <= 8; size++ {
			for _, ahead := range []string{"", "0", "1", "f"} {
				key := (ahead + "12345678")[:size]
				for _, key := range []string{key, key[:size-1] + "0", key[:size-1] + "f", (key + "00000000")[:8]} {
					if code := mustPutByWords(t, cells, nameOfNode(n), key, "zzzzzzzzzzz0"); code != fdThere {
						t.Fatalf("the code of %q in %v is %d", key, n, code)
					}
				}
			}
		}
	}
}

// P6: cells that are not CellsOk, also where the bad one is not on the way, and where the tree is the empty one.
func TestP6BadCells(t *testing.T) {
	root := nameOfNode(sampleNodes()[4])
	for _, cells := range badCells() {
		for _, name := range []int64{root, 0, 5, math.MaxInt64} {
			for _, key := range []string{"1a", "1ab", "2", "0"} {
				mustBeBadPut(t, cells, name, key, "new")
				mustBeBadPut(t, cells, name, key, "x")
			}
		}
	}
}

// P6: a key that is not KeyOk, a value that is not ValueOk, a root below 0, also one that is a name but for its sign.
func TestP6BadArguments(t *testing.T) {
	for _, cells := range someCells() {
		roots := []int64{0, 5, nameOfNode(sampleNodes()[4])}
		for _, root := range roots {
			for _, key := range badKeys() {
				mustBeBadPut(t, cells, root, key, "new")
			}
			for _, value := range badValues() {
				mustBeBadPut(t, cells, root, "1a", value)
				mustBeBadPut(t, cells, root, "4", value)
			}
		}
		bad := []int64{-1, -2, -1 << 31, math.MinInt64, math.MinInt64 + 1}
		for _, c := range cells {
			bad = append(bad, -c.Name, ^c.Name, c.Name|math.MinInt64)
		}
		for _, root := range bad {
			mustBeBadPut(t, cells, root, "1a", "new")
			mustBeBadPut(t, cells, root, "000", "v")
		}
	}
}

// P6: what is wrong with an argument goes ahead of all else, and what is not there ahead of what has no room, however many are wrong.
func TestP6WrongInTwoWays(t *testing.T) {
	nodes := sampleNodes()
	right, root := cellsOfNodes(nodes...), nameOfNode(nodes[4])
	bent := cloneCells(right)
	bent[0].Name++
	lost, _ := impl.Without(right, nameOfNode(nodes[0]))
	full := cellsOfNodes(append(numberedLeaves(maxCells-4), nodes[1:]...)...)
	for _, c := range []struct {
		cells      []impl.Cell
		root       int64
		key, value string
	}{
		{bent, 0, "", "a"}, {bent, 5, "1a", "a"}, {bent, -1, "1a", "a"}, {bent, root, "1a", ""}, {bent, root, "1A", "A"}, {bent, -1, "", ""},
		{right, 0, "", ""}, {right, 0, "1A", "A"}, {right, 5, "1A", "a"}, {right, 5, "1a", ""}, {right, -1, "1a", "A"}, {right, -1, "g", "a"}, {right, -1, "", ""},
		{nil, 0, "", ""}, {nil, 5, "g", "a"}, {nil, 5, "1", "A"}, {nil, -1, "1", ""}, {nil, -1, "g", "a"},
		{lost, root, "1ab", ""}, {lost, root, "1abA", "a"}, {lost, root, "1ab000000", "a"}, {lost, -1, "1ab", "a"}, {lost, -root, "1ab", "a"},
		{full, root, "2", ""}, {full, root, "2g", "a"}, {full, -1, "2", "a"}, {full, 0, "5", "A"}, {full, root, "1ab", ""}, {full, 0, "", "a"},
	} {
		mustBeBadPut(t, c.cells, c.root, c.key, c.value)
	}
	mustNotPut(t, lost, root, "1ab", "new", fdLost)
	mustNotPut(t, full, root, "1ab", "new", fdLost)
	mustNotPut(t, full, root, "1abc", "new", fdLost)
	mustNotPut(t, full, 5, "1", "new", fdLost)
	mustNotPut(t, full, root, "2", "new", fdFull)
	mustNotPut(t, full, 0, "2", "new", fdFull)
}

// P6: of drawn nodes in any shape, some of which are not there, with more or less room, the answer is what the document's words tell.
func TestP6DrawnNodes(t *testing.T) {
	r := rand.New(rand.NewSource(63))
	told := map[int64]int{}
	for range 80 {
		nodes, names := drawnStairs(r)
		kept := []impl.Node{}
		for _, n := range nodes {
			if r.Intn(10) > 0 {
				kept = append(kept, n)
			}
		}
		cells := cellsOfNodes(kept...)
		if r.Intn(2) == 0 {
			cells = joined(cells, numberedLeaves(max(0, maxCells-len(cells)-r.Intn(5)))...)
		}
		for range 25 {
			root, key := names[len(names)-1-r.Intn(min(8, len(names)))], drawnKeyAmong(r, 3)
			if r.Intn(2) == 0 {
				key = key[:1+r.Intn(len(key))]
			}
			told[mustPutByWords(t, cells, root, key, string("abcdn"[r.Intn(5)]))]++
		}
	}
	for _, code := range []int64{fdThere, fdLost, fdFull} {
		if told[code] < 150 {
			t.Fatalf("the code %d is told only %d times", code, told[code])
		}
	}
}

// P19: whatever the arguments are, there is an answer: with one of the codes, what the document tells beside it, and the same again.
func TestP19PutInAnswersAlways(t *testing.T) {
	r := rand.New(rand.NewSource(64))
	pools := append(someCells(), badCells()...)
	for range 3000 {
		cells, root := drawnCells(r, pools)
		key, value := string(drawnBytes(r, 10)), string(drawnBytes(r, 14))
		if r.Intn(5) > 0 {
			key = drawnKeyAmong(r, 16)
		}
		if r.Intn(5) > 0 {
			value = drawnKeyAmong(r, 16)
		}
		if !impl.CellsOk(cells) || !impl.KeyOk(key) || !impl.ValueOk(value) || root < 0 {
			mustBeBadPut(t, cells, root, key, value)
		} else {
			mustPutByWords(t, cells, root, key, value)
		}
	}
}

// putCalls are cells and calls of PutIn on them, with each code.
func putCalls() []struct {
	cells []impl.Cell
	call  func(arg []impl.Cell) ([]impl.Cell, int64, int64)
} {
	nodes := sampleNodes()
	root := nameOfNode(nodes[4])
	lost, _ := impl.Without(cellsOfNodes(nodes...), nameOfNode(nodes[0]))
	full := cellsOfNodes(append(numberedLeaves(maxCells-6), nodes...)...)
	lists := slices.Concat(someCells(), badCells()[:6], [][]impl.Cell{lost, full, cellsOfNodes(selfNamed(), selfForked())})
	calls := []struct {
		cells []impl.Cell
		call  func(arg []impl.Cell) ([]impl.Cell, int64, int64)
	}{}
	for _, cells := range lists {
		for _, name := range []int64{root, 0, 5, -1, nameOfNode(selfNamed()), nameOfNode(selfForked())} {
			for _, key := range []string{"1a", "1ab", "1", "2", "4", "1cde", "283283", "aab", "", "1A"} {
				for _, value := range []string{"x", "new", ""} {
					calls = append(calls, struct {
						cells []impl.Cell
						call  func(arg []impl.Cell) ([]impl.Cell, int64, int64)
					}{cells, func(arg []impl.Cell) ([]impl.Cell, int64, int64) { return impl.PutIn(arg, name, key, value) }})
				}
			}
		}
	}
	return calls
}

// P19: the cells stay, and so does the spare room behind them, with each code; no answer depends on that room.
func TestP19PutInLeavesItsArguments(t *testing.T) {
	told := map[int64]int{}
	for _, c := range putCalls() {
		cells, top, code := c.call(cloneCells(c.cells))
		told[code]++
		want := fmt.Sprintln(cells, top, code)
		mustLeave(t, c.cells, func(arg []impl.Cell) {
			cells, top, code := c.call(arg)
			if got := fmt.Sprintln(cells, top, code); got != want {
				t.Fatalf("of %v with spare room: %s, without: %s", c.cells, got, want)
			}
		})
	}
	for _, code := range []int64{fdThere, fdLost, fdBad, fdFull} {
		if told[code] < 10 {
			t.Fatalf("the code %d is told only %d times", code, told[code])
		}
	}
}

// P19: the cells that are answered are new memory, with each code, also where they are as they are.
func TestP19PutInIsNewMemory(t *testing.T) {
	for _, c := range putCalls() {
		mustBeNewCells(t, c.cells, func(arg []impl.Cell) []impl.Cell {
			cells, _, _ := c.call(arg)
			return cells
		})
	}
}
