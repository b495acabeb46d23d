package tests

import (
	"fmt"
	"maps"
	"math"
	"math/rand"
	"slices"
	"strings"
	"testing"

	"loop.example/g00754/impl"
)

const (
	maxEdits = 12
	cmOk     = 0
	cmBad    = 1
	cmRoot   = 2
	cmFull   = 3
	cmThere  = 4
	cmNone   = 5
)

// editsOf are edits, each told by a key and a value; the value is empty where the key is dropped.
func editsOf(words ...string) []impl.Edit {
	list := []impl.Edit{}
	for i := 0; i < len(words); i += 2 {
		list = append(list, impl.Edit{Key: words[i], Value: words[i+1]})
	}
	return list
}

// editRight is what the document's words tell of an edit.
func editRight(e impl.Edit) bool {
	return impl.KeyOk(e.Key) && (e.Value == "" || impl.ValueOk(e.Value))
}

// treeByWords is the document's words for the new tree: the nodes that are there and all that are made on the way to it, and its root; false where one would be none.
func treeByWords(there map[int64]impl.Node, root int64, list []impl.Edit) (map[int64]impl.Node, int64, bool) {
	there = maps.Clone(there)
	for _, e := range list {
		var made []impl.Node
		if e.Value != "" {
			made, _ = madeByWords(there, root, e.Key, e.Value)
		} else {
			left, code := leftByWords(there, root, e.Key)
			if code == fdNone {
				continue
			}
			made = left
		}
		if slices.ContainsFunc(made, tooLong) {
			return nil, 0, false
		}
		for _, n := range made {
			there[nameOfNode(n)] = n
		}
		root = topOf(made)
	}
	return there, root, true
}

// commitByWords is the document's words for a commit.
func commitByWords(b impl.Base, parent int64, list []impl.Edit) ([]impl.Change, int64, int64) {
	there := thereIn(b.Cells)
	switch {
	case !baseByWords(b) || parent < 0 || len(list) > maxEdits || slices.ContainsFunc(list, func(e impl.Edit) bool { return !editRight(e) }):
		return nil, 0, cmBad
	case parent != 0 && !slices.Contains(keptByWords(b), parent):
		return nil, 0, cmRoot
	}
	made, root, is := treeByWords(there, parent, list)
	if !is {
		return nil, 0, cmFull
	}
	tree, _ := reachByWords(made, root)
	names := slices.Sorted(maps.Keys(tree))
	changes := []impl.Change{}
	for _, name := range names {
		if _, is := there[name]; !is {
			changes = append(changes, cellChange(made[name]))
		}
	}
	if len(there)+len(changes) > maxCells {
		return nil, 0, cmFull
	}
	if b.Phase == phMark && root != 0 && !slices.Contains(b.Grey, root) && !slices.Contains(b.Black, root) {
		changes = append(changes, namedChange(chGrey, root))
	}
	for _, name := range names {
		if b.Phase == phSweep && !slices.Contains(b.Black, name) {
			changes = append(changes, namedChange(chBlack, name))
		}
	}
	return append(changes, namedChange(chHead, root)), root, cmOk
}

// pinByWords is the document's words for the code of a pin.
func pinByWords(b impl.Base, root int64) int64 {
	switch {
	case !baseByWords(b):
		return cmBad
	case !slices.Contains(keptByWords(b), root):
		return cmRoot
	case slices.Contains(b.Pins, root):
		return cmThere
	case len(b.Pins) == maxPins:
		return cmFull
	}
	return cmOk
}

// unpinByWords is likewise for what is to be no pin any more.
func unpinByWords(b impl.Base, root int64) int64 {
	switch {
	case !baseByWords(b):
		return cmBad
	case !slices.Contains(b.Pins, root):
		return cmNone
	}
	return cmOk
}

// cellChanges are a ChCell of each of these nodes, by name.
func cellChanges(nodes ...impl.Node) []impl.Change {
	list := []impl.Change{}
	for _, c := range cellsOfNodes(nodes...) {
		list = append(list, impl.Change{Kind: chCell, Name: c.Name, Bytes: c.Bytes})
	}
	return list
}

// mustAnswerCommit asks for just this answer.
func mustAnswerCommit(t *testing.T, b impl.Base, parent int64, list []impl.Edit, want []impl.Change, root, code int64) {
	t.Helper()
	got, r, k := impl.CommitOf(b, parent, list)
	if k != code || r != root || !changeLists.alike(got, want) {
		t.Fatalf("CommitOf(%v, %d, %v) = %v, %d, %d, want %v, %d, %d", b, parent, list, got, r, k, want, root, code)
	}
}

// mustRefuse asks for the code, no changes and no root.
func mustRefuse(t *testing.T, b impl.Base, parent int64, list []impl.Edit, code int64) {
	t.Helper()
	mustAnswerCommit(t, b, parent, list, nil, 0, code)
	if _, _, k := commitByWords(b, parent, list); k != code {
		t.Fatalf("by the words of the document the code of %v, %d, %v is %d, not %d", b, parent, list, k, code)
	}
}

// mustCommit asks for the changes that the document's words tell, and for the promise of what they make: a right Base with the map that it should have, in which nothing that a Pin keeps is lost. The Base is answered.
func mustCommit(t *testing.T, b impl.Base, parent int64, list ...impl.Edit) impl.Base {
	t.Helper()
	want, root, code := commitByWords(b, parent, list)
	if code != cmOk {
		t.Fatalf("by the words of the document the code of %v, %d, %v is %d", b, parent, list, code)
	}
	mustAnswerCommit(t, b, parent, list, want, root, cmOk)
	after := mustChange(t, b, want...)
	if after.Head != root || !slices.Equal(after.Pins, b.Pins) || after.Phase != b.Phase || after.Cursor != b.Cursor || len(want) > maxChanges {
		t.Fatalf("%v makes %v of %v", want, after, b)
	}
	for _, c := range b.Cells {
		if !slices.ContainsFunc(after.Cells, func(other impl.Cell) bool { return sameCell(c, other) }) {
			t.Fatalf("the cell %v is lost behind %v", c, want)
		}
	}
	pairs, keys := map[string]string{}, keysIn(b.Cells, parent)
	for _, key := range keys {
		pairs[key], _ = impl.Found(b.Cells, parent, key)
	}
	for _, e := range list {
		keys = append(keys, keysNear(e.Key)...)
		pairs[e.Key] = e.Value
		if e.Value == "" {
			delete(pairs, e.Key)
		}
	}
	mustHoldMap(t, after.Cells, root, pairs, keys)
	return after
}

// mustTryCommit asks for either, by the document's words; the Base behind it and the code are answered.
func mustTryCommit(t *testing.T, b impl.Base, parent int64, list ...impl.Edit) (impl.Base, int64) {
	t.Helper()
	if _, _, code := commitByWords(b, parent, list); code != cmOk {
		mustRefuse(t, b, parent, list, code)
		return b, code
	}
	return mustCommit(t, b, parent, list...), cmOk
}

// mustPin asks for what the document's words tell of a pin, and of no pin; both codes are answered.
func mustPin(t *testing.T, b impl.Base, root int64) (int64, int64) {
	t.Helper()
	pinned, unpinned := pinByWords(b, root), unpinByWords(b, root)
	got, code := impl.PinOf(b, root)
	mustTellPin(t, b, root, got, code, pinned, chPin)
	if code == cmOk && !sameBase(mustChange(t, b, got...), withPins(b, more(b.Pins, root)...)) {
		t.Fatalf("%v does not make %d a pin of %v", got, root, b)
	}
	got, code = impl.UnpinOf(b, root)
	mustTellPin(t, b, root, got, code, unpinned, chUnpin)
	if code == cmOk && !sameBase(mustChange(t, b, got...), withPins(b, less(b.Pins, root)...)) {
		t.Fatalf("%v does not make %d no pin of %v", got, root, b)
	}
	return pinned, unpinned
}

// mustPinAs asks for these codes, too.
func mustPinAs(t *testing.T, b impl.Base, root, pin, unpin int64) {
	t.Helper()
	if p, u := mustPin(t, b, root); p != pin || u != unpin {
		t.Fatalf("the codes of %d in %v are %d, %d, want %d, %d", root, b, p, u, pin, unpin)
	}
}

// mustTellPin asks for the code, and just one change with CmOk, none with each other one.
func mustTellPin(t *testing.T, b impl.Base, root int64, got []impl.Change, code, want, kind int64) {
	t.Helper()
	list := []impl.Change{}
	if want == cmOk {
		list = append(list, namedChange(kind, root))
	}
	if code != want || !changeLists.alike(got, list) {
		t.Fatalf("the change %d of %d in %v is %v, %d, want %v, %d", kind, root, b, got, code, list, want)
	}
}

// The codes have no type of their own: an int64 and a byte take them.
func TestP14Constants(t *testing.T) {
	codes := []int64{impl.CmOk, impl.CmBad, impl.CmRoot, impl.CmFull, impl.CmThere, impl.CmNone}
	if impl.MaxEdits != maxEdits || !slices.Equal(codes, upTo(6)) {
		t.Fatalf("MaxEdits is %d, and the codes are %v", impl.MaxEdits, codes)
	}
	var asByte byte = impl.CmNone
	var asInt int = impl.MaxEdits
	if asByte != 5 || asInt != 12 {
		t.Fatalf("CmNone is %d, and MaxEdits %d", asByte, asInt)
	}
}

// P14, by hand: from nothing to the tree of sampleNodes and away from it, each answer written out.
func TestP14ByHand(t *testing.T) {
	sample := sampleNodes()
	y, z, one, a, whole := sample[0], sample[1], sample[2], sample[3], sample[4]
	far, below := leafOf("y", 1, 10, 11), leafOf("y", 10, 11)
	two := forkOf("", kidAt(1, below), kidAt(2, z))
	near := leafOf("x", 10)
	last := forkOf("", kidAt(1, near), kidAt(3, z))
	b := impl.NewBase()
	for i, step := range []struct {
		parent int64
		edits  []impl.Edit
		cells  []impl.Node
		root   int64
	}{
		{0, editsOf("1ab", "y"), []impl.Node{far}, nameOfNode(far)},
		{nameOfNode(far), editsOf("2", "z"), []impl.Node{below, z, two}, nameOfNode(two)},
		{nameOfNode(two), editsOf("1a", "x", "3", "z"), []impl.Node{y, one, a, whole}, nameOfNode(whole)},
		{nameOfNode(whole), editsOf("4", "", "2", "z"), nil, nameOfNode(whole)},
		{nameOfNode(whole), editsOf("1ab", "", "2", ""), []impl.Node{near, last}, nameOfNode(last)},
		{nameOfNode(last), editsOf("1a", "", "3", ""), nil, 0},
		{0, editsOf("2", "z", "1ab", "y"), nil, nameOfNode(two)},
		{0, nil, nil, 0},
	} {
		want := append(cellChanges(step.cells...), namedChange(chHead, step.root))
		mustAnswerCommit(t, b, step.parent, step.edits, want, step.root, cmOk)
		next := mustCommit(t, b, step.parent, step.edits...)
		if made := withHead(withNodes(b, step.cells...), step.root); !sameBase(next, made) {
			t.Fatalf("the step %d makes %v, want %v", i, next, made)
		}
		b = next
	}
	if len(b.Cells) != 10 {
		t.Fatalf("%d cells are there", len(b.Cells))
	}
}

// headedBy are these changes, and the ChHead behind them.
func headedBy(root int64, lists ...[]impl.Change) []impl.Change {
	return append(slices.Concat(lists...), namedChange(chHead, root))
}

// blackChanges are a ChBlack of each of these nodes, by name.
func blackChanges(nodes ...impl.Node) []impl.Change {
	list := []impl.Change{}
	for _, c := range cellsOfNodes(nodes...) {
		list = append(list, namedChange(chBlack, c.Name))
	}
	return list
}

// phasedBases are the base that is made by hand, in each phase.
func phasedBases() ([]impl.Base, handNames) {
	idle, n := handBase()
	marked, _ := markedBase()
	swept, _ := sweptBase()
	return []impl.Base{idle, marked, swept}, n
}

// someEdits are lists of edits that are right.
func someEdits() [][]impl.Edit {
	return [][]impl.Edit{
		nil, {}, editsOf("4", "z"), editsOf("4", "p"), editsOf("1a", "w", "5", "q"), editsOf("1ab", "", "4", ""), editsOf("12345678", "far", "1234567", "near"),
		editsOf("3", "", "2", "", "1a", "", "1ab", ""), editsOf("1a", "x"), editsOf("9", ""), editsOf("9", "q", "9", ""), editsOf("2", "", "2", "z"),
	}
}

// P14: from whatever is kept: 0, the Head, and a Pin that is not the Head; in each phase. What is no more kept is no parent any more.
func TestP14Parents(t *testing.T) {
	bases, n := phasedBases()
	for _, b := range bases {
		for _, list := range someEdits() {
			for _, parent := range []int64{0, n.root, n.pin} {
				mustCommit(t, b, parent, list...)
			}
			for _, parent := range []int64{0, n.pin} {
				mustCommit(t, withHead(b, 0), parent, list...)
				mustCommit(t, withHead(b, n.pin), parent, list...)
			}
			mustCommit(t, withPins(b), n.root, list...)
			mustRefuse(t, withHead(b, 0), n.root, list, cmRoot)
			mustRefuse(t, withHead(b, n.pin), n.root, list, cmRoot)
			mustRefuse(t, withPins(b), n.pin, list, cmRoot)
		}
	}
	six := withPins(bases[0], risenNames(n.y, n.z, n.one, n.a, n.root, n.pin)...)
	for _, parent := range six.Pins {
		mustCommit(t, withHead(six, 0), parent, editsOf("777", "q")...)
		mustCommit(t, six, parent)
	}
}

// P14: while it is marked the new root is grey, but where it is grey or black already, or 0: each case written out.
func TestP14Mark(t *testing.T) {
	b, n := markedBase()
	sample, q, five := sampleNodes(), leafOf("q"), leafOf("q", 5)
	wide := forkOf("", kidAt(1, sample[3]), kidAt(2, sample[1]), kidAt(3, sample[1]), kidAt(5, q))
	b = withNodes(b, q, five)
	f, w := nameOfNode(five), nameOfNode(wide)
	black := withBlack(b, more(b.Black, f)...)
	greyed := func(root int64) []impl.Change { return []impl.Change{namedChange(chGrey, root)} }
	for _, c := range []struct {
		b      impl.Base
		parent int64
		edits  []impl.Edit
		root   int64
		ahead  []impl.Change
	}{
		{b, n.root, nil, n.root, nil}, // it is black
		{black, n.root, editsOf("2", "z"), n.root, nil},
		{black, 0, editsOf("5", "q"), f, nil},
		{b, n.pin, nil, n.pin, nil}, // it is grey: the first one, one in the middle, the last one
		{withGrey(b, n.z, n.pin, n.a), n.pin, nil, n.pin, nil},
		{withGrey(b, n.a, n.z, n.pin), n.pin, editsOf("4", "z"), n.pin, nil},
		{withGrey(b, f, n.pin, n.z, n.a), 0, editsOf("5", "q"), f, nil},
		{withGrey(b, n.pin, n.z, n.a, f), 0, editsOf("5", "q"), f, nil},
		{b, 0, nil, 0, nil}, // it is 0
		{b, 0, editsOf("5", ""), 0, nil},
		{b, n.root, editsOf("1a", "", "1ab", "", "2", "", "3", ""), 0, nil},
		{b, 0, editsOf("5", "q"), f, greyed(f)}, // it is white, and there
		{withNodes(b, wide), n.root, editsOf("5", "q"), w, greyed(w)},
		{b, n.root, editsOf("5", "q"), w, append(cellChanges(wide), greyed(w)...)}, // it is new
		{black, n.root, editsOf("6", "r", "5", "q", "6", ""), w, append(cellChanges(wide), greyed(w)...)},
		{b, 0, editsOf("6", "q"), nameOfNode(leafOf("q", 6)), append(cellChanges(leafOf("q", 6)), greyed(nameOfNode(leafOf("q", 6)))...)},
	} {
		mustAnswerCommit(t, c.b, c.parent, c.edits, headedBy(c.root, c.ahead), c.root, cmOk)
		after := mustCommit(t, c.b, c.parent, c.edits...)
		grey := slices.Clone(c.b.Grey)
		if len(c.ahead) > 0 {
			grey = append(grey, c.root)
		}
		if !slices.Equal(after.Grey, grey) || !slices.Equal(after.Black, c.b.Black) {
			t.Fatalf("%v is grey and %v black behind %v in %v", after.Grey, after.Black, c.edits, c.b)
		}
	}
}

// P14: once it is swept all of the new tree is black: what is new, what was there but not black; and what was black is not told again.
func TestP14Sweep(t *testing.T) {
	b, n := sweptBase()
	sample, q, five, six, p := sampleNodes(), leafOf("q"), leafOf("q", 5), leafOf("q", 6), leafOf("p")
	wide := forkOf("", kidAt(1, sample[3]), kidAt(2, sample[1]), kidAt(3, sample[1]), kidAt(5, q))
	pinned := forkOf("p", kidAt(4, sample[1]), kidAt(5, q))
	b = withNodes(b, q, five)
	both := withNodes(b, wide)
	withBlackNode := func(b impl.Base, node impl.Node) impl.Base { return withBlack(b, more(b.Black, nameOfNode(node))...) }
	for _, c := range []struct {
		b      impl.Base
		parent int64
		edits  []impl.Edit
		root   int64
		ahead  []impl.Change
	}{
		{b, n.root, nil, n.root, nil}, // nothing is told
		{b, n.pin, nil, n.pin, nil},
		{b, 0, nil, 0, nil},
		{b, n.root, editsOf("1a", "", "1ab", "", "2", "", "3", ""), 0, nil},
		{withBlackNode(b, five), 0, editsOf("5", "q"), nameOfNode(five), nil},
		{b, 0, editsOf("5", "q"), nameOfNode(five), blackChanges(five)}, // what is there
		{both, n.root, editsOf("5", "q"), nameOfNode(wide), blackChanges(q, wide)},
		{withBlackNode(both, q), n.root, editsOf("5", "q"), nameOfNode(wide), blackChanges(wide)},
		{withBlackNode(both, wide), n.root, editsOf("5", "q"), nameOfNode(wide), blackChanges(q)},  // its Kid, though it is black
		{b, 0, editsOf("6", "q"), nameOfNode(six), append(cellChanges(six), blackChanges(six)...)}, // what is new
		{b, n.pin, editsOf("4", ""), nameOfNode(p), append(cellChanges(p), blackChanges(p)...)},
		{b, n.root, editsOf("5", "q"), nameOfNode(wide), append(cellChanges(wide), blackChanges(q, wide)...)}, // and both
		{withBlackNode(b, q), n.root, editsOf("5", "q"), nameOfNode(wide), append(cellChanges(wide), blackChanges(wide)...)},
		{b, n.pin, editsOf("5", "q"), nameOfNode(pinned), append(cellChanges(pinned), blackChanges(q, pinned)...)},
	} {
		for _, cursor := range []int64{0, n.lone, math.MaxInt64} {
			arg := withCursor(c.b, cursor)
			mustAnswerCommit(t, arg, c.parent, c.edits, headedBy(c.root, c.ahead), c.root, cmOk)
			mustCommit(t, arg, c.parent, c.edits...)
		}
	}
}

// P14: cells and what is black are told by name, however many they are, and all cells ahead.
func TestP14OrderOfChanges(t *testing.T) {
	list, leaves := []impl.Edit{}, []impl.Node{}
	kids := []impl.Kid{}
	for i := range int64(maxEdits) {
		leaf := leafOf(fmt.Sprint("v", i), i)
		list, leaves, kids = append(list, impl.Edit{Key: digitsOf([]int64{i, i}), Value: leaf.Value}), append(leaves, leaf), append(kids, kidAt(i, leaf))
	}
	top := forkOf("", kids...)
	root := nameOfNode(top)
	all := append(slices.Clone(leaves), top)
	for phase, coloured := range [][]impl.Change{nil, {namedChange(chGrey, root)}, blackChanges(all...)} {
		b := withPhase(impl.Base{}, int64(phase))
		mustAnswerCommit(t, b, 0, list, headedBy(root, cellChanges(all...), coloured), root, cmOk)
		mustAnswerCommit(t, b, 0, turned(list), headedBy(root, cellChanges(all...), coloured), root, cmOk)
		for i, leaf := range leaves {
			some := withNodes(b, leaf, leaves[0])
			rest := slices.DeleteFunc(slices.Clone(all), func(n impl.Node) bool { return sameNode(n, leaf) || sameNode(n, leaves[0]) })
			mustAnswerCommit(t, some, 0, list, headedBy(root, cellChanges(rest...), coloured), root, cmOk)
			mustCommit(t, some, 0, list[:i]...)
		}
		mustAnswerCommit(t, withNodes(b, all...), 0, list, headedBy(root, coloured), root, cmOk)
	}
}

// P14: in each order of edits of keys that are not alike the changes are the same.
func TestP14EachOrder(t *testing.T) {
	bases, n := phasedBases()
	for _, b := range bases {
		for _, pairs := range []map[string]string{{"1a": "w", "1ab": "", "4": "q", "123": "q"}, {"2": "", "3": "", "1a": "", "99": ""}, {"4": "", "44": "p", "45": "p", "4b": "p"}} {
			list := []impl.Edit{}
			for _, key := range slices.Sorted(maps.Keys(pairs)) {
				list = append(list, impl.Edit{Key: key, Value: pairs[key]})
			}
			for _, parent := range []int64{0, n.root, n.pin} {
				want, root, _ := impl.CommitOf(b, parent, list)
				mustCommit(t, b, parent, list...)
				for _, order := range orders(slices.Sorted(maps.Keys(pairs))) {
					shuffled := []impl.Edit{}
					for _, key := range order {
						shuffled = append(shuffled, impl.Edit{Key: key, Value: pairs[key]})
					}
					mustAnswerCommit(t, b, parent, shuffled, want, root, cmOk)
				}
			}
		}
	}
}

// P14: edits that do nothing, that undo each other, and two of one key: the last one holds. What is only on the way to the new tree is not told.
func TestP14EditsOfOneKey(t *testing.T) {
	bases, n := phasedBases()
	for _, b := range bases {
		for _, list := range [][]impl.Edit{
			nil, {}, editsOf("9", ""), editsOf("1", "", "1abc", "", "12345678", ""), editsOf("2", "z"), editsOf("1ab", "y", "1a", "x"), editsOf("2", "q", "2", "z"),
			editsOf("2", "", "2", "z"), editsOf("1a", "", "1ab", "", "1ab", "y", "1a", "x"), editsOf("9", "q", "9", ""), editsOf("9", "q", "9", "", "9", ""),
			editsOf("1a", "", "1ab", "", "2", "", "3", "", "3", "z", "2", "z", "1ab", "y", "1a", "x"), slices.Repeat(editsOf("2", "z"), maxEdits), slices.Repeat(editsOf("9", ""), maxEdits),
		} {
			mustAnswerCommit(t, b, n.root, list, headedBy(n.root), n.root, cmOk)
			mustCommit(t, b, n.root, list...)
		}
		for _, list := range [][]impl.Edit{nil, {}, editsOf("9", ""), editsOf("9", "q", "9", ""), editsOf("9", "q", "8", "q", "9", "", "8", ""), slices.Repeat(editsOf("9", "q", "9", ""), 6)} {
			mustAnswerCommit(t, b, 0, list, headedBy(0), 0, cmOk)
			mustCommit(t, b, 0, list...)
		}
		for _, parent := range []int64{0, n.root, n.pin} {
			want, root, _ := impl.CommitOf(b, parent, editsOf("9", "q"))
			mustCommit(t, b, parent, editsOf("9", "q")...)
			for _, list := range [][]impl.Edit{
				editsOf("9", "r", "9", "q"), editsOf("9", "", "9", "q"), editsOf("9", "q", "9", "", "9", "q"), editsOf("9", "q", "9", "q"), editsOf("9", "r", "8", "r", "8", "", "9", "", "9", "q", "8", ""),
			} {
				mustAnswerCommit(t, b, parent, list, want, root, cmOk)
			}
		}
	}
}

// P14: at most twelve edits, in each phase, also where they do nothing.
func TestP14MaxEdits(t *testing.T) {
	bases, n := phasedBases()
	for _, b := range bases {
		for _, e := range editsOf("9", "q", "9", "", "2", "z") {
			for count := range 12 {
				mustCommit(t, b, n.root, slices.Repeat([]impl.Edit{e}, count)...)
			}
			mustCommit(t, b, n.root, slices.Repeat([]impl.Edit{e}, maxEdits)...)
			for _, count := range []int{13, 14, 24, 255, 256, 257, 268, 65548} {
				mustRefuse(t, b, n.root, slices.Repeat([]impl.Edit{e}, count), cmBad)
				mustRefuse(t, b, n.lone, slices.Repeat([]impl.Edit{e}, count), cmBad)
			}
		}
	}
	deep := []impl.Edit{}
	for i := range maxEdits {
		deep = append(deep, impl.Edit{Key: strings.Repeat("1", i%8+1), Value: fmt.Sprint("v", i)})
	}
	for phase := range int64(3) {
		mustCommit(t, withPhase(impl.Base{}, phase), 0, deep...)
		mustRefuse(t, withPhase(impl.Base{}, phase), 0, append(slices.Clone(deep), deep[0]), cmBad)
	}
}

// P14: one edit that is not right, at each place.
func TestP14BadEdits(t *testing.T) {
	bases, n := phasedBases()
	for _, b := range bases {
		bad := []impl.Edit{{}}
		for _, key := range badKeys() {
			bad = append(bad, impl.Edit{Key: key, Value: "a"}, impl.Edit{Key: key})
		}
		for _, value := range badValues() {
			if value != "" {
				bad = append(bad, impl.Edit{Key: "1a", Value: value}, impl.Edit{Key: "9", Value: value})
			}
		}
		for i, e := range bad {
			list := editsOf("1a", "x", "2", "", "9", "q")
			list = slices.Insert(list, i%4, e)
			for _, parent := range []int64{0, n.root, n.pin, n.lone, -1} {
				mustRefuse(t, b, parent, list, cmBad)
				mustRefuse(t, b, parent, []impl.Edit{e}, cmBad)
			}
		}
	}
}

// P14: parents that are not kept, though their nodes are there, that are not there, and that are below 0.
func TestP14BadParents(t *testing.T) {
	bases, n := phasedBases()
	for _, b := range bases {
		for _, list := range someEdits() {
			for _, parent := range []int64{n.lone, n.a, n.one, n.y, n.z, 1, 5, n.root + 1, math.MaxInt64} {
				mustRefuse(t, b, parent, list, cmRoot)
			}
			for _, parent := range []int64{-1, -5, -n.root, -n.pin, math.MinInt64, math.MinInt64 + 1} {
				mustRefuse(t, b, parent, list, cmBad)
			}
		}
	}
	for phase := range int64(3) {
		mustRefuse(t, withPhase(impl.Base{}, phase), 1, nil, cmRoot)
	}
}

// P14: bases that are not right, with whatever else is right or not.
func TestP14BadBases(t *testing.T) {
	bases, n := phasedBases()
	wrong := 0
	for _, b := range bases {
		for _, bent := range bentBases(b) {
			if baseByWords(bent) {
				continue
			}
			wrong++
			for _, list := range [][]impl.Edit{nil, editsOf("9", "q"), editsOf("x", ""), make([]impl.Edit, maxEdits+1)} {
				for _, parent := range []int64{0, b.Head, bent.Head, n.lone, -1} {
					mustRefuse(t, bent, parent, list, cmBad)
				}
			}
			for _, root := range []int64{0, n.root, n.pin, n.lone, -1} {
				mustPinAs(t, bent, root, cmBad, cmBad)
			}
		}
	}
	for _, cells := range badCells() {
		mustRefuse(t, impl.Base{Cells: cells}, 0, nil, cmBad)
		mustPin(t, impl.Base{Cells: cells}, 0)
		wrong++
	}
	if wrong < 200 {
		t.Fatalf("%d are not right", wrong)
	}
}

// roomBase is a base in which that many cells more may be; its Head is one of those that are there, the next one is a Pin. In each phase it is right.
func roomBase(phase int64, room int) impl.Base {
	b := impl.Base{Cells: cellsOfNodes(numberedLeaves(maxCells - room)...), Phase: phase}
	names := namesOf(b.Cells)
	b.Head, b.Pins = names[20], names[21:22]
	switch phase {
	case phMark:
		b.Grey = []int64{b.Pins[0], b.Head}
	case phSweep:
		b.Black = []int64{b.Head, b.Pins[0]}
	}
	return b
}

// P14: as many cells as there may be, and one too many: of one edit, of twelve, and in each phase. What is there needs no room, nor does what is only on the way to the new tree.
func TestP14Full(t *testing.T) {
	star, pairs := []impl.Edit{}, map[string]string{}
	for i := range int64(maxEdits) {
		star = append(star, impl.Edit{Key: digitsOf([]int64{15 - i}), Value: fmt.Sprint("s", i)})
		pairs[star[i].Key] = star[i].Value
	}
	starNodes, _ := planted(pairs)
	for phase := range int64(3) {
		for _, c := range []struct {
			list []impl.Edit
			need int
		}{
			{nil, 0}, {editsOf("000", "v"), 0}, {editsOf("9", "q", "9", ""), 0}, {editsOf("9", "q", "99", "q", "999", "q", "9", "", "99", "", "999", ""), 0}, {editsOf("999", ""), 0},
			{editsOf("9", "q", "9", "", "001", "v"), 0}, {editsOf("9", "q"), 1}, {editsOf("12345678", "q", "12345678", "r"), 1}, {editsOf("1", "q", "2", "r"), 3}, {editsOf("1", "q", "2", "q"), 2},
			{editsOf("11", "q", "12", "r"), 4}, {star, len(starNodes)}, {editsOf("1", "q", "2", "r", "3", "s", "2", "", "1", ""), 1},
		} {
			for room := range 20 {
				b := roomBase(phase, room)
				if c.need > room {
					mustRefuse(t, b, 0, c.list, cmFull)
					continue
				}
				after := mustCommit(t, b, 0, c.list...)
				if len(after.Cells) != maxCells-room+c.need {
					t.Fatalf("%v needs %d cells, not %d", c.list, len(after.Cells)-len(b.Cells), c.need)
				}
			}
		}
		full := roomBase(phase, 0)
		for _, parent := range []int64{0, full.Head, full.Pins[0]} {
			mustCommit(t, full, parent)
			mustCommit(t, full, parent, editsOf("9", "q", "9", "")...)
			mustCommit(t, full, parent, editsOf("9", "")...)
			mustRefuse(t, full, parent, editsOf("9", "q"), cmFull)
		}
	}
	if len(starNodes) != 13 {
		t.Fatalf("%d nodes", len(starNodes))
	}
}

// P14: a new tree with a node that would be none, where what is pulled has too many numbers: there is none, then, whatever edits follow.
func TestP14NoNode(t *testing.T) {
	far, near := leafOf("far", 1, 2, 3, 4, 5, 6, 7, 8), leafOf("near")
	top := forkOf("", kidAt(0, far), kidAt(1, near))
	for phase := range int64(3) {
		b := impl.Base{Cells: cellsOfNodes(far, near, top), Head: nameOfNode(top), Phase: phase}
		switch phase {
		case phMark:
			b.Grey = []int64{b.Head}
		case phSweep:
			b.Black = namesOf(b.Cells)
		}
		mustRefuse(t, b, b.Head, editsOf("1", ""), cmFull)
		mustRefuse(t, b, b.Head, editsOf("1", "", "1", "near"), cmFull)
		mustRefuse(t, b, b.Head, editsOf("9", "", "1", "", "2", "q"), cmFull)
		mustCommit(t, b, b.Head, editsOf("2", "q", "1", "")...)
		mustCommit(t, b, b.Head, editsOf("1", "q")...)
		mustRefuse(t, b, b.Head, editsOf("1", "", "x", ""), cmBad)
		mustRefuse(t, withHead(b, 0), b.Head, editsOf("1", ""), cmRoot)
	}
}

// P14: where more than one code would fit, it is the one that is named first.
func TestP14WrongInTwoWays(t *testing.T) {
	for phase := range int64(3) {
		full := roomBase(phase, 0)
		other := full.Cells[0].Name
		put, bad := editsOf("9", "q"), editsOf("9", "q", "9", "Q")
		mustRefuse(t, full, full.Head, put, cmFull)
		mustRefuse(t, full, other, put, cmRoot)
		mustRefuse(t, full, 5, put, cmRoot)
		mustRefuse(t, full, -1, put, cmBad)
		mustRefuse(t, full, full.Head, bad, cmBad)
		mustRefuse(t, full, other, bad, cmBad)
		mustRefuse(t, full, -other, bad, cmBad)
		mustRefuse(t, full, other, slices.Repeat(put, maxEdits+1), cmBad)
		mustRefuse(t, full, full.Head, slices.Repeat(put, maxEdits+1), cmBad)
		wrong := withPhase(full, 3)
		mustRefuse(t, wrong, full.Head, nil, cmBad)
		mustRefuse(t, wrong, other, put, cmBad)
		mustRefuse(t, wrong, -1, bad, cmBad)
		six := roomBase(phase, 0)
		if phase == phSweep {
			six.Black = namesOf(six.Cells)
		}
		if phase == phMark {
			six.Grey = namesOf(six.Cells)
		}
		six.Pins = namesOf(six.Cells)[21:27]
		for root, want := range map[int64][2]int64{six.Head: {cmFull, cmNone}, six.Pins[5]: {cmThere, cmOk}, six.Cells[0].Name: {cmRoot, cmNone}, 0: {cmRoot, cmNone}, -1: {cmRoot, cmNone}} {
			mustPinAs(t, six, root, want[0], want[1])
		}
	}
}

// P14, by hand: pins and what is no pin any more, with each of their codes, in each phase.
func TestP14Pins(t *testing.T) {
	bases, n := phasedBases()
	for _, b := range bases {
		got, code := impl.PinOf(b, n.root)
		if code != cmOk || len(got) != 1 || !sameChange(got[0], impl.Change{Kind: 4, Name: n.root}) {
			t.Fatalf("PinOf(%v, %d) = %v, %d", b, n.root, got, code)
		}
		got, code = impl.UnpinOf(b, n.pin)
		if code != cmOk || len(got) != 1 || !sameChange(got[0], impl.Change{Kind: 5, Name: n.pin}) {
			t.Fatalf("UnpinOf(%v, %d) = %v, %d", b, n.pin, got, code)
		}
		for root, want := range map[int64][2]int64{
			n.root: {cmOk, cmNone}, n.pin: {cmThere, cmOk}, n.lone: {cmRoot, cmNone}, n.a: {cmRoot, cmNone}, n.z: {cmRoot, cmNone}, n.y: {cmRoot, cmNone}, 0: {cmRoot, cmNone},
			1: {cmRoot, cmNone}, -1: {cmRoot, cmNone}, -n.root: {cmRoot, cmNone}, -n.pin: {cmRoot, cmNone}, math.MinInt64: {cmRoot, cmNone}, math.MaxInt64: {cmRoot, cmNone},
		} {
			mustPinAs(t, b, root, want[0], want[1])
		}
		both := mustChange(t, b, namedChange(chPin, n.root))
		for root, want := range map[int64][2]int64{n.root: {cmThere, cmOk}, n.pin: {cmThere, cmOk}} {
			for _, b := range []impl.Base{both, withHead(both, 0), withHead(both, n.pin)} {
				mustPinAs(t, b, root, want[0], want[1])
			}
		}
		mustPin(t, withHead(b, 0), 0)
		mustPin(t, withPins(withHead(b, 0)), 0)
	}
}

// P14: up to six pins, one behind the other, and none more; and down again.
func TestP14MaxPins(t *testing.T) {
	cells := cellsOfNodes(numberedLeaves(10)...)
	names := namesOf(cells)
	r := rand.New(rand.NewSource(140))
	for range 20 {
		r.Shuffle(len(names), func(i, k int) { names[i], names[k] = names[k], names[i] })
		b := impl.Base{Cells: cells}
		for i, name := range names {
			b = withHead(b, name)
			pin, unpin := mustPin(t, b, name)
			if full := i >= maxPins; full != (pin == cmFull) || full == (pin == cmOk) || unpin != cmNone {
				t.Fatalf("the codes of the pin %d are %d, %d", i, pin, unpin)
			}
			if pin == cmOk {
				list, _ := impl.PinOf(b, name)
				b = mustChange(t, b, list...)
			}
		}
		for i, name := range names {
			if _, unpin := mustPin(t, b, name); (unpin == cmOk) != (i < maxPins) {
				t.Fatalf("the code of no pin %d is %d", i, unpin)
			}
			list, _ := impl.UnpinOf(b, name)
			b = mustChange(t, b, list...)
		}
		if len(b.Pins) != 0 {
			t.Fatalf("%v are left", b.Pins)
		}
	}
}

// P14: of each right base each name, as a root of pins and as a parent.
func TestP14EachName(t *testing.T) {
	pins, unpins, commits := map[int64]int{}, map[int64]int{}, map[int64]int{}
	for i, b := range someBases() {
		for k, name := range append(namesOf(b.Cells), 0, 5, -1, math.MaxInt64) {
			if len(b.Cells) > 20 && (k+i)%7 > 0 {
				continue
			}
			pin, unpin := mustPin(t, b, name)
			_, code := mustTryCommit(t, b, name, someEdits()[k%len(someEdits())]...)
			pins[pin]++
			unpins[unpin]++
			commits[code]++
		}
	}
	for _, code := range []int64{cmOk, cmRoot, cmFull, cmThere} {
		if pins[code] < 2 {
			t.Fatalf("the codes of pins are %v", pins)
		}
	}
	if unpins[cmOk] < 20 || unpins[cmNone] < 100 || commits[cmOk] < 50 || commits[cmBad] < 20 || commits[cmRoot] < 50 || commits[cmFull] < 2 {
		t.Fatalf("the codes are %v and %v", unpins, commits)
	}
}

// finished is a right Base once the steps of a sweep have made it PhIdle; it must be right behind each of them.
func finished(t *testing.T, b impl.Base) impl.Base {
	t.Helper()
	for range 3*maxCells + 3 {
		if b.Phase == phIdle {
			return b
		}
		b = mustChange(t, b, nextStep(b)...)
	}
	t.Fatalf("the sweep of %v does not end", b)
	return b
}

// P14: at each step of a sweep, from each parent: the sweep goes on to its end, and takes away nothing of what was committed, nor of a Pin.
func TestP14SweepGoesOn(t *testing.T) {
	hand, n := handBase()
	lists := append(someEdits(), editsOf("1", "r"), editsOf("9", "y"), editsOf("3", "", "2", ""))
	for _, start := range []impl.Base{hand, withHead(hand, n.a), withPins(hand), withHead(hand, 0), withNodes(hand, leafOf("q"), leafOf("z", 4), leafOf("q", 5), leafOf("far", 2, 3, 4, 5, 6, 7, 8))} {
		for _, b := range cycleOf(start) {
			for _, parent := range append(keptByWords(b), 0) {
				for _, list := range lists {
					after := mustCommit(t, b, parent, list...)
					end := finished(t, after)
					for _, root := range keptByWords(after) {
						pairs, is := impl.PairsOf(end.Cells, root)
						want, was := impl.PairsOf(after.Cells, root)
						if is != was || !slices.Equal(pairs, want) {
							t.Fatalf("of %d in %v %v, %v is left, want %v, %v", root, after, pairs, is, want, was)
						}
					}
				}
			}
		}
	}
}

// P14: a commit behind each step of a sweep, over many sweeps: what was committed last is there, and so is what a Pin keeps.
func TestP14CommitsMeanwhile(t *testing.T) {
	r := rand.New(rand.NewSource(141))
	for range 4 {
		b, pairs := impl.NewBase(), map[string]string{}
		phases := map[int64]int{}
		for i := range 300 {
			key, value := drawnKeyAmong(r, 3), fmt.Sprint("v", i%7)
			if len(key) > 3 || r.Intn(3) == 0 {
				value = ""
			}
			pairs[key] = value
			if value == "" {
				delete(pairs, key)
			}
			if len(pairs) > 12 {
				delete(pairs, key)
				value = ""
			}
			after, code := mustTryCommit(t, b, b.Head, impl.Edit{Key: key, Value: value})
			for code == cmFull {
				b = mustChange(t, b, nextStep(b)...)
				after, code = mustTryCommit(t, b, b.Head, impl.Edit{Key: key, Value: value})
			}
			phases[b.Phase]++
			b = mustChange(t, after, nextStep(after)...)
			mustHoldMap(t, b.Cells, b.Head, pairs, keysNear(key))
			nodes, root := planted(pairs)
			if reached, whole := impl.ReachOf(b.Cells, []int64{b.Head}); b.Head != root || !whole || len(reached) != len(cellsOfNodes(nodes...)) {
				t.Fatalf("the Head is %d, want %d", b.Head, root)
			}
		}
		if phases[phIdle] < 2 || phases[phMark] < 40 || phases[phSweep] < 40 {
			t.Fatalf("the phases are %v", phases)
		}
	}
}

// P14: drawn maps and edits: the root and the cells are those of the tree that is made of the edited map at once, however the edits come.
func TestP14DrawnMaps(t *testing.T) {
	r := rand.New(rand.NewSource(142))
	done, full := 0, 0
	for range 500 {
		pairs := drawnMap(r, 18)
		keys := append(slices.Sorted(maps.Keys(pairs)), "1", "00")
		nodes, root := planted(pairs)
		b := impl.Base{Cells: joined(cellsOfNodes(nodes...), numberedLeaves(r.Intn(maxCells+1-len(cellsOfNodes(nodes...))))...), Head: root}
		so, list := behind(pairs, ""), []impl.Edit{}
		for range r.Intn(maxEdits + 1) {
			e := impl.Edit{Key: keys[r.Intn(len(keys))], Value: string(valueLetters[r.Intn(4)])}
			if r.Intn(2) == 0 {
				e.Key = drawnKeyAmong(r, 2)
			}
			so[e.Key] = e.Value
			if r.Intn(3) == 0 {
				e.Value = ""
				delete(so, e.Key)
			}
			list = append(list, e)
		}
		made, top := planted(so)
		if len(joined(b.Cells, made...)) > maxCells {
			full++
			mustRefuse(t, b, root, list, cmFull)
			continue
		}
		done++
		after := mustCommit(t, b, root, list...)
		if after.Head != top || !sameCells(after.Cells, joined(b.Cells, made...)) {
			t.Fatalf("CommitOf(%v, %d, %v) makes %v, want the tree %v with the root %d", b, root, list, after, made, top)
		}
	}
	if done < 200 || full < 40 {
		t.Fatalf("%d are done, %d are full", done, full)
	}
}

// drawnRoot is often one that is kept, else 0, one that is there, or any.
func drawnRoot(r *rand.Rand, b impl.Base) int64 {
	kept := append(keptByWords(b), 0)
	switch r.Intn(8) {
	case 0:
		return int64(r.Uint64()) >> r.Intn(64)
	case 1:
		if len(b.Cells) > 0 {
			return b.Cells[r.Intn(len(b.Cells))].Name
		}
	}
	return kept[r.Intn(len(kept))]
}

// drawnEdits are mostly right, of keys that the tree has, and of some near to them.
func drawnEdits(r *rand.Rand, b impl.Base, parent int64) []impl.Edit {
	keys := append(keysIn(b.Cells, parent), "1", "12", "a1")
	list := []impl.Edit{}
	for range r.Intn(1 + r.Intn(maxEdits+2)) {
		e := impl.Edit{Key: keys[r.Intn(len(keys))], Value: string(valueLetters[r.Intn(3)])}
		switch r.Intn(4) {
		case 0:
			e.Key = drawnKeyAmong(r, 3)
		case 1:
			near := keysNear(e.Key)
			e.Key = near[r.Intn(len(near))]
		}
		if r.Intn(2) == 0 {
			e.Value = ""
		}
		if r.Intn(200) == 0 {
			e.Key = badKeys()[r.Intn(len(badKeys()))]
		}
		if r.Intn(200) == 0 {
			e.Value = badValues()[r.Intn(len(badValues()))]
		}
		list = append(list, e)
	}
	return list
}

// P14: draws of commits, pins and steps of a sweep, one behind the other, from right bases: each answer is what the document's words tell, and the Base stays right.
func TestP14Draws(t *testing.T) {
	r := rand.New(rand.NewSource(143))
	bases := append(startBases(), someBases()...)
	for i := range 30 {
		bases = append(bases, roomBase(int64(i%3), i/3))
	}
	told := map[string]int{}
	for range 250 {
		b := bases[r.Intn(len(bases))]
		for range 25 {
			root := drawnRoot(r, b)
			switch r.Intn(5) {
			case 0, 1:
				after, code := mustTryCommit(t, b, root, drawnEdits(r, b, root)...)
				told[fmt.Sprint("commit ", b.Phase, " ", code)]++
				b = after
			case 2:
				pin, unpin := mustPin(t, b, root)
				told[fmt.Sprint("pin ", b.Phase, " ", pin)]++
				told[fmt.Sprint("unpin ", b.Phase, " ", unpin)]++
				if list, code := impl.PinOf(b, root); code == cmOk {
					b = mustChange(t, b, list...)
				} else if list, code := impl.UnpinOf(b, root); code == cmOk && r.Intn(2) == 0 {
					b = mustChange(t, b, list...)
				}
			default:
				if b.Phase != phIdle || r.Intn(4) == 0 {
					b = mustChange(t, b, nextStep(b)...)
				}
			}
		}
	}
	for phase := range 3 {
		for _, codes := range []string{"commit 0", "commit 1", "commit 2", "commit 3", "pin 0", "pin 2", "pin 4", "unpin 0", "unpin 5"} {
			words := strings.Fields(codes)
			if told[fmt.Sprint(words[0], " ", phase, " ", words[1])] < 6 {
				t.Fatalf("the codes are %v", told)
			}
		}
	}
}

// P14: edits in two commits, the second one from what the first one made, make the root that they make at once, and the same cells but for what is on the way.
func TestP14InParts(t *testing.T) {
	r := rand.New(rand.NewSource(144))
	bases := someBases()
	parted := 0
	for range 600 {
		b := bases[r.Intn(len(bases))]
		parent := drawnRoot(r, b)
		list := drawnEdits(r, b, parent)
		_, root, code := impl.CommitOf(b, parent, list)
		for place := range len(list) + 1 {
			first, top, k := impl.CommitOf(b, parent, list[:place])
			if code != cmOk || k != cmOk {
				continue
			}
			next, is := impl.ChangedAll(b, first)
			_, again, k := impl.CommitOf(next, top, list[place:])
			if !is || k != cmFull && (k != cmOk || again != root) {
				t.Fatalf("%v of %d in two parts at %d makes %d, %d, and at once %d", list, parent, place, again, k, root)
			}
			parted++
		}
	}
	if parted < 500 {
		t.Fatalf("%d are parted", parted)
	}
}

// P14: nodes that are reached from themselves are kept, too: edits make a new tree out of them, and it ends.
func TestP14ReachedFromItself(t *testing.T) {
	stem, fork := nameOfNode(selfNamed()), nameOfNode(selfForked())
	cells := cellsOfNodes(selfNamed(), selfForked())
	for phase := range int64(3) {
		b := impl.Base{Cells: cells, Head: fork, Pins: []int64{stem}, Phase: phase}
		switch phase {
		case phMark:
			b.Grey, b.Black = []int64{stem}, []int64{fork}
		case phSweep:
			b.Black = risenNames(stem, fork)
		}
		for _, list := range [][]impl.Edit{
			nil, editsOf("aaaa", "q"), editsOf("a", ""), editsOf("aaaaaaaa", ""), editsOf("b", "q", "aab", "q"), editsOf("283283", "q"), editsOf("28328328", "q", "2", "q"), editsOf("aa", "rj1gkd40op7k"),
		} {
			for _, parent := range []int64{0, fork, stem} {
				mustCommit(t, b, parent, list...)
			}
		}
		mustAnswerCommit(t, b, fork, editsOf("aa", "rj1gkd40op7k"), headedBy(fork), fork, cmOk)
	}
}

// P19: whatever the arguments are, there is an answer, and it is what the document's words tell.
func TestP19CommitsAnswerAlways(t *testing.T) {
	r := rand.New(rand.NewSource(145))
	pools := append(slices.Repeat(someCells(), 6), badCells()...)
	codes := map[int64]int{}
	for range 4000 {
		b := strangeBase(r, pools)
		root := drawnRoot(r, b)
		list := drawnEdits(r, b, b.Head)
		if r.Intn(3) == 0 {
			list = append(list, impl.Edit{Key: string(drawnBytes(r, 10)), Value: string(drawnBytes(r, 14))})
		}
		_, code := mustTryCommit(t, b, root, list...)
		codes[code]++
		mustPin(t, b, root)
	}
	for code := range int64(4) {
		if codes[code] < 15 {
			t.Fatalf("the codes are %v", codes)
		}
	}
	hand, n := handBase()
	for _, e := range []impl.Edit{{}, {Key: "1a", Value: "x"}, {Key: strings.Repeat("1", 1<<20)}, {Key: "1", Value: strings.Repeat("a", 1<<20)}} {
		mustRefuse(t, hand, n.root, slices.Repeat([]impl.Edit{e}, 1<<20), cmBad)
	}
	mustRefuse(t, hand, n.root, editsOf(strings.Repeat("1", 1<<20), "a"), cmBad)
	mustRefuse(t, hand, n.root, editsOf("1", strings.Repeat("a", 1<<20)), cmBad)
	for _, many := range []impl.Base{{Cells: make([]impl.Cell, 1<<20)}, withPins(hand, upTo(1<<18)...), withGrey(hand, make([]int64, 1<<18)...)} {
		mustRefuse(t, many, 0, nil, cmBad)
		mustPin(t, many, 0)
	}
}

// commitAnswers is what each function of the chapter answers, in a text; nothing and nil are the same there.
func commitAnswers(b impl.Base, root int64, list []impl.Edit) string {
	changes, top, code := impl.CommitOf(b, root, list)
	pin, pinCode := impl.PinOf(b, root)
	unpin, unpinCode := impl.UnpinOf(b, root)
	return fmt.Sprintln(changes, top, code, pin, pinCode, unpin, unpinCode)
}

// commitCalls are bases, right ones and others, each with roots and edits.
func commitCalls(call func(b impl.Base, root int64, list []impl.Edit)) {
	r := rand.New(rand.NewSource(146))
	bases := someBases()
	pools := append(someCells(), badCells()...)
	for range 20 {
		bases = append(bases, strangeBase(r, pools))
	}
	for _, b := range bases {
		roots := []int64{0, b.Head, drawnRoot(r, b), -1}
		if len(b.Pins) > 0 {
			roots = append(roots, b.Pins[0])
		}
		for _, root := range roots {
			for _, list := range [][]impl.Edit{nil, editsOf("1ab", "", "4", "q", "2", "z"), editsOf("9", "q", "99", "r", "999", "s"), editsOf("1", "q", "x", "q"), drawnEdits(r, b, root)} {
				call(b, root, list)
			}
		}
	}
}

// P19: a Base and edits stay, and so does the spare room behind each of their lists; no answer depends on that room.
func TestP19CommitsLeaveTheirArguments(t *testing.T) {
	commitCalls(func(b impl.Base, root int64, list []impl.Edit) {
		want := commitAnswers(cloneBase(b), root, slices.Clone(list))
		mustLeaveBase(t, b, func(b impl.Base) {
			mustStay(t, list, editsOf("1a", "spare", "2", "", "x", "y"), func(list []impl.Edit) {
				if got := commitAnswers(b, root, list); got != want {
					t.Fatalf("of %v, %d, %v with spare room: %s, without: %s", b, root, list, got, want)
				}
			})
		})
	})
}

// P19: the changes that are answered are new memory, the Bytes of each by itself: none shares any with an argument, another change or another answer, spare room included.
func TestP19CommitsAreNewMemory(t *testing.T) {
	commitCalls(func(b impl.Base, root int64, list []impl.Edit) {
		for _, call := range []func(b impl.Base) []impl.Change{
			func(b impl.Base) []impl.Change { changes, _, _ := impl.CommitOf(b, root, list); return changes },
			func(b impl.Base) []impl.Change { changes, _ := impl.PinOf(b, root); return changes },
			func(b impl.Base) []impl.Change { changes, _ := impl.UnpinOf(b, root); return changes },
		} {
			arg := cloneBase(b)
			changeLists.mustBeNew(t, func() []impl.Change { return call(arg) })
			if !sameBase(arg, b) {
				t.Fatalf("an answer of %v shares memory with it", b)
			}
			got := call(arg)
			want := changeLists.clone(got)
			for i := range got {
				_ = append(got[i].Bytes, spareBytes...)
			}
			spoilBase(arg)
			if !changeLists.alike(got, want) {
				t.Fatalf("%v is %v once it is written on, and the arguments are written into", want, got)
			}
		}
	})
}

// P19: what is told of a commit depends on no other call.
func TestP19CommitsOfOtherTimes(t *testing.T) {
	bases := someBases()
	for i, b := range bases {
		want := commitAnswers(b, b.Head, editsOf("9", "q", "1ab", ""))
		other := bases[(i+1)%len(bases)]
		commitAnswers(other, other.Head, editsOf("9", "q", "9", ""))
		commitAnswers(b, b.Head, editsOf("1", "", "x", ""))
		commitAnswers(withPhase(b, 3), b.Head, nil)
		if got := commitAnswers(b, b.Head, editsOf("9", "q", "1ab", "")); got != want {
			t.Fatalf("of %v it is %s behind other calls, want %s", b, got, want)
		}
	}
}
