package tests

import (
	"fmt"
	"maps"
	"math"
	"math/rand"
	"slices"
	"testing"

	"loop.example/g00754/impl"
)

const (
	maxPins  = 6
	phIdle   = 0
	phMark   = 1
	phSweep  = 2
	chGone   = 2
	chPin    = 4
	chUnpin  = 5
	chGrey   = 6
	chUngrey = 7
	chBlack  = 8
	chPhase  = 9
	chCursor = 10
)

func sameBase(a, b impl.Base) bool {
	return sameCells(a.Cells, b.Cells) && a.Head == b.Head && slices.Equal(a.Pins, b.Pins) &&
		a.Phase == b.Phase && slices.Equal(a.Grey, b.Grey) && slices.Equal(a.Black, b.Black) && a.Cursor == b.Cursor
}

func cloneBase(b impl.Base) impl.Base {
	b.Cells, b.Pins, b.Grey, b.Black = cloneCells(b.Cells), slices.Clone(b.Pins), slices.Clone(b.Grey), slices.Clone(b.Black)
	return b
}

// Each of these is the Base with one part of it another one.
func withHead(b impl.Base, name int64) impl.Base      { b.Head = name; return b }
func withPins(b impl.Base, names ...int64) impl.Base  { b.Pins = names; return b }
func withPhase(b impl.Base, phase int64) impl.Base    { b.Phase = phase; return b }
func withGrey(b impl.Base, names ...int64) impl.Base  { b.Grey = names; return b }
func withBlack(b impl.Base, names ...int64) impl.Base { b.Black = names; return b }
func withCursor(b impl.Base, name int64) impl.Base    { b.Cursor = name; return b }

func withNodes(b impl.Base, nodes ...impl.Node) impl.Base {
	b.Cells = joined(b.Cells, nodes...)
	return b
}

func withoutCell(b impl.Base, name int64) impl.Base {
	b.Cells = slices.DeleteFunc(cloneCells(b.Cells), func(c impl.Cell) bool { return c.Name == name })
	return b
}

// less is these names but that one.
func less(names []int64, name int64) []int64 {
	return slices.DeleteFunc(slices.Clone(names), func(other int64) bool { return other == name })
}

// more is these names and some others, in order.
func more(names []int64, others ...int64) []int64 {
	return risenNames(slices.Concat(names, others)...)
}

// turned is this list, the last one first.
func turned[T any](list []T) []T {
	list = slices.Clone(list)
	slices.Reverse(list)
	return list
}

func risenNames(names ...int64) []int64 {
	slices.Sort(names)
	return names
}

// cellsByWords is what the document's words tell of cells.
func cellsByWords(cells []impl.Cell) bool {
	last := int64(-1)
	for _, c := range cells {
		if n, is := impl.NodeFrom(c.Bytes); !is || !sameCell(c, cellOf(n)) || c.Name <= last {
			return false
		}
		last = c.Name
	}
	return len(cells) <= maxCells
}

// reachByWords is all that is reached from these, and whether it is there.
func reachByWords(there map[int64]impl.Node, roots ...int64) (map[int64]bool, bool) {
	reached, whole := map[int64]bool{}, true
	for len(roots) > 0 {
		name := roots[0]
		roots = roots[1:]
		if name == 0 || reached[name] {
			continue
		}
		n, is := there[name]
		reached[name], whole = true, whole && is
		for _, kid := range n.Kids {
			roots = append(roots, kid.Name)
		}
	}
	return reached, whole
}

// setOf is these names; false where one is none of a cell, or two are alike.
func setOf(there map[int64]impl.Node, names []int64) (map[int64]bool, bool) {
	set := map[int64]bool{}
	for _, name := range names {
		if _, is := there[name]; !is || set[name] {
			return nil, false
		}
		set[name] = true
	}
	return set, true
}

// keptByWords is Head and Pins, rising, without 0.
func keptByWords(b impl.Base) []int64 {
	kept := append(slices.Clone(b.Pins), b.Head)
	slices.Sort(kept)
	return slices.DeleteFunc(slices.Compact(kept), func(name int64) bool { return name == 0 })
}

// baseByWords is what the document's words tell of a Base.
func baseByWords(b impl.Base) bool {
	there := thereIn(b.Cells)
	needed, whole := reachByWords(there, append(slices.Clone(b.Pins), b.Head)...)
	pinned, pinsAre := setOf(there, b.Pins)
	if !cellsByWords(b.Cells) || !whole || !pinsAre || len(pinned) > maxPins || !slices.IsSorted(b.Pins) {
		return false
	}
	grey, greyIs := setOf(there, b.Grey)
	black, blackIs := setOf(there, b.Black)
	_, greyWhole := reachByWords(there, b.Grey...)
	if !greyIs || !blackIs || !slices.IsSorted(b.Black) {
		return false
	}
	found := maps.Clone(black)
	maps.Copy(found, grey)
	switch {
	case b.Phase == phIdle:
		return len(found) == 0 && b.Cursor == 0
	case b.Phase == phMark:
		for _, name := range keptByWords(b) {
			if !found[name] {
				return false
			}
		}
		for name := range black {
			for _, kid := range there[name].Kids {
				if !found[kid.Name] {
					return false
				}
			}
		}
		return len(found) == len(grey)+len(black) && greyWhole && b.Cursor == 0
	case b.Phase == phSweep:
		for name := range needed {
			if !black[name] {
				return false
			}
		}
		return len(grey) == 0 && b.Cursor >= 0
	}
	return false
}

// changedByWords is what the changes make of a Base, one behind the other, right or not.
func changedByWords(b impl.Base, list []impl.Change) impl.Base {
	cells, pins, black := map[int64]impl.Cell{}, map[int64]bool{}, map[int64]bool{}
	for _, c := range b.Cells {
		cells[c.Name] = c
	}
	for _, name := range b.Pins {
		pins[name] = true
	}
	for _, name := range b.Black {
		black[name] = true
	}
	grey := slices.Clone(b.Grey)
	for _, c := range list {
		switch c.Kind {
		case chCell:
			if _, is := cells[c.Name]; !is {
				cells[c.Name] = impl.Cell{Name: c.Name, Bytes: c.Bytes}
			}
		case chGone:
			delete(cells, c.Name)
			delete(black, c.Name)
		case chHead:
			b.Head = c.Name
		case chPin:
			pins[c.Name] = true
		case chUnpin:
			delete(pins, c.Name)
		case chGrey:
			grey = append(grey, c.Name)
		case chUngrey:
			if len(grey) > 0 {
				grey = grey[:len(grey)-1]
			}
		case chBlack:
			black[c.Name] = true
		case chPhase:
			b.Phase = c.Name
		case chCursor:
			b.Cursor = c.Name
		case chClear:
			grey, black = nil, map[int64]bool{}
		}
	}
	b.Cells = slices.Collect(maps.Values(cells))
	sortCells(b.Cells)
	b.Pins, b.Grey, b.Black = slices.Sorted(maps.Keys(pins)), grey, slices.Sorted(maps.Keys(black))
	return b
}

// mustBeBase asks for a right Base, and for what is kept by it.
func mustBeBase(t *testing.T, b impl.Base) {
	t.Helper()
	if !impl.BaseOk(b) || !baseByWords(b) {
		t.Fatalf("BaseOk(%v) is %v, want true", b, impl.BaseOk(b))
	}
	if kept := impl.KeptBy(b); !slices.Equal(kept, keptByWords(b)) {
		t.Fatalf("KeptBy(%v) = %v, want %v", b, kept, keptByWords(b))
	}
	for _, none := range [][]impl.Change{nil, {}} {
		if got, is := impl.ChangedAll(b, none); !is || !sameBase(got, b) {
			t.Fatalf("ChangedAll(%v, none) = %v, %v, want it as it is, true", b, got, is)
		}
	}
}

// mustBeNoBase asks for the fixed answers at a Base that is not right, whatever is to be done, and were it right behind that.
func mustBeNoBase(t *testing.T, b impl.Base) {
	t.Helper()
	if impl.BaseOk(b) || baseByWords(b) {
		t.Fatalf("BaseOk(%v) is %v, want false", b, impl.BaseOk(b))
	}
	if kept := impl.KeptBy(b); len(kept) != 0 {
		t.Fatalf("KeptBy(%v) = %v, want nothing", b, kept)
	}
	idle := []impl.Change{namedChange(chHead, 0), namedChange(chClear, 0), namedChange(chCursor, 0), namedChange(chPhase, phIdle)}
	for _, name := range b.Pins[:min(len(b.Pins), 100)] {
		idle = append(idle, namedChange(chUnpin, name))
	}
	for _, list := range [][]impl.Change{nil, {}, {namedChange(chUngrey, 0)}, idle, {{}}, make([]impl.Change, maxChanges+1)} {
		if got, is := impl.ChangedAll(b, list); is || !sameBase(got, impl.Base{}) {
			t.Fatalf("ChangedAll(%v, %v) = %v, %v, want the zero Base, false", b, list, got, is)
		}
	}
}

// mustBe asks of any Base for what the document's words tell of it.
func mustBe(t *testing.T, b impl.Base) bool {
	t.Helper()
	if is := baseByWords(b); !is {
		mustBeNoBase(t, b)
		return false
	}
	mustBeBase(t, b)
	return true
}

// mustChange asks for what the changes make of a right Base.
func mustChange(t *testing.T, b impl.Base, list ...impl.Change) impl.Base {
	t.Helper()
	want := changedByWords(b, list)
	got, is := impl.ChangedAll(b, list)
	if !is || !sameBase(got, want) {
		t.Fatalf("ChangedAll(%v, %v) = %v, %v, want %v, true", b, list, got, is, want)
	}
	mustBeBase(t, got)
	return got
}

// mustNotChange asks for a right Base as it is.
func mustNotChange(t *testing.T, b impl.Base, list ...impl.Change) {
	t.Helper()
	if got, is := impl.ChangedAll(b, list); is || !sameBase(got, b) {
		t.Fatalf("ChangedAll(%v, %v) = %v, %v, want it as it is, false", b, list, got, is)
	}
}

// mustTry asks for either, by the document's words.
func mustTry(t *testing.T, b impl.Base, list ...impl.Change) bool {
	t.Helper()
	if len(list) > maxChanges || slices.ContainsFunc(list, func(c impl.Change) bool { return !rightByWords(c) }) || !baseByWords(changedByWords(b, list)) {
		mustNotChange(t, b, list...)
		return false
	}
	mustChange(t, b, list...)
	return true
}

// handNames are the names of what is in the base that is made by hand.
type handNames struct {
	y, z, one, a, root, pin, lone int64
}

// handBase is PhIdle: its Head is the root of sampleNodes, its Pin is a fork to z, which the Head reaches too, and nobody needs a stem to y.
func handBase() (impl.Base, handNames) {
	nodes := sampleNodes()
	pin := forkOf("p", impl.Kid{At: 4, Name: nameOfNode(nodes[1])})
	lone := stemOf(nameOfNode(nodes[0]), 9)
	names := handNames{nameOfNode(nodes[0]), nameOfNode(nodes[1]), nameOfNode(nodes[2]), nameOfNode(nodes[3]), nameOfNode(nodes[4]), nameOfNode(pin), nameOfNode(lone)}
	return impl.Base{Cells: cellsOfNodes(append(nodes, pin, lone)...), Head: names.root, Pins: []int64{names.pin}}, names
}

// markedBase is that one while it is marked: the root is gone through, z, the pin and a are found.
func markedBase() (impl.Base, handNames) {
	b, n := handBase()
	b.Phase, b.Grey, b.Black = phMark, []int64{n.pin, n.z, n.a}, []int64{n.root}
	return b, n
}

// sweptBase is that one once all that is kept is black, and the cursor is at the first cell.
func sweptBase() (impl.Base, handNames) {
	b, n := handBase()
	b.Phase, b.Black, b.Cursor = phSweep, risenNames(n.y, n.z, n.one, n.a, n.root, n.pin), b.Cells[0].Name
	return b, n
}

// nextStep is one step of a sweep, as the document's words tell it.
func nextStep(b impl.Base) []impl.Change {
	list := []impl.Change{}
	switch {
	case b.Phase == phIdle:
		list = append(list, namedChange(chPhase, phMark))
		for _, name := range keptByWords(b) {
			list = append(list, namedChange(chGrey, name))
		}
	case b.Phase == phMark && len(b.Grey) == 0:
		list = append(list, namedChange(chPhase, phSweep))
	case b.Phase == phMark:
		last := b.Grey[len(b.Grey)-1]
		list = append(list, namedChange(chUngrey, 0), namedChange(chBlack, last))
		found := append(slices.Clone(b.Black), b.Grey...)
		for _, kid := range thereIn(b.Cells)[last].Kids {
			if !slices.Contains(found, kid.Name) {
				list, found = append(list, namedChange(chGrey, kid.Name)), append(found, kid.Name)
			}
		}
	default:
		next := slices.IndexFunc(b.Cells, func(c impl.Cell) bool { return c.Name > b.Cursor })
		if next < 0 {
			return append(list, namedChange(chClear, 0), namedChange(chCursor, 0), namedChange(chPhase, phIdle))
		}
		name := b.Cells[next].Name
		if !slices.Contains(b.Black, name) {
			list = append(list, namedChange(chGone, name))
		}
		list = append(list, namedChange(chCursor, name))
	}
	return list
}

// cycleOf is a right Base and what the steps of a sweep make of it, until it is PhIdle again.
func cycleOf(b impl.Base) []impl.Base {
	list := []impl.Base{b}
	for {
		b = changedByWords(b, nextStep(b))
		list = append(list, b)
		if b.Phase == phIdle {
			return list
		}
	}
}

// fullBase has as many cells as there may be, and as many Pins; the Head is one more.
func fullBase() impl.Base {
	cells := cellsOfNodes(numberedLeaves(maxCells)...)
	return impl.Base{Cells: cells, Head: cells[40].Name, Pins: namesOf(cells)[70 : 70+maxPins]}
}

// startBases are right and PhIdle: of none, by hand, full, and with one that is reached from itself.
func startBases() []impl.Base {
	hand, n := handBase()
	self := impl.Base{Cells: cellsOfNodes(selfNamed(), leafOf("a"))}
	name := nameOfNode(selfNamed())
	return []impl.Base{
		{}, hand, fullBase(), withHead(self, name), withPins(self, name), withHead(hand, 0), withPins(hand), withHead(withPins(hand), 0), withHead(hand, n.pin),
		withPins(hand, risenNames(n.y, n.z, n.one, n.a, n.root, n.pin)...), withPins(withHead(hand, n.one), risenNames(n.lone, n.z)...),
	}
}

// someBases are right ones of each phase.
func someBases() []impl.Base {
	list := []impl.Base{withPhase(impl.Base{}, phMark), withPhase(impl.Base{}, phSweep)}
	for _, b := range startBases() {
		cycle := cycleOf(b)
		for i, b := range cycle {
			if len(cycle) < 50 || i%20 == 1 {
				list = append(list, b)
			}
		}
	}
	marked, _ := markedBase()
	swept, n := sweptBase()
	return append(list, marked, withGrey(marked, n.pin, n.z, n.a, n.lone), withBlack(withGrey(marked, n.one, n.lone, n.y, n.root, n.a, n.z, n.pin)),
		swept, withBlack(swept, namesOf(swept.Cells)...), withCursor(swept, math.MaxInt64))
}

func TestP13Constants(t *testing.T) {
	if impl.MaxPins != maxPins || impl.PhIdle != phIdle || impl.PhMark != phMark || impl.PhSweep != phSweep {
		t.Fatalf("MaxPins is %d, and the phases are %d, %d, %d", impl.MaxPins, impl.PhIdle, impl.PhMark, impl.PhSweep)
	}
	var asByte byte = impl.PhSweep
	var asInt int = impl.MaxPins
	if asByte != 2 || asInt != 6 {
		t.Fatalf("PhSweep is %d, and MaxPins %d", asByte, asInt)
	}
}

// P13: NewBase is all zero, and right.
func TestP13NewBase(t *testing.T) {
	b := impl.NewBase()
	if !sameBase(b, impl.Base{}) {
		t.Fatalf("NewBase() = %v", b)
	}
	mustBeBase(t, b)
	mustBeBase(t, impl.Base{Cells: []impl.Cell{}, Pins: []int64{}, Grey: []int64{}, Black: []int64{}})
	if kept := impl.KeptBy(b); len(kept) != 0 {
		t.Fatalf("KeptBy(NewBase()) = %v", kept)
	}
	first := cellOf(leafOf("a"))
	b.Cells, b.Pins, b.Grey, b.Black = append(b.Cells, first), append(b.Pins, 5), append(b.Grey, 5), append(b.Black, 5)
	if again := impl.NewBase(); !sameBase(again, impl.Base{}) {
		t.Fatalf("NewBase() = %v behind another one that was written on", again)
	}
}

// P13, by hand: from nothing to a head and through a sweep, each Base written out.
func TestP13ByHand(t *testing.T) {
	low, high := leafOf("a"), leafOf("b")
	if nameOfNode(low) > nameOfNode(high) {
		low, high = high, low
	}
	l, h := nameOfNode(low), nameOfNode(high)
	root := forkOf("", impl.Kid{At: 0, Name: h}, impl.Kid{At: 7, Name: l})
	r := nameOfNode(root)
	whole, leaves := cellsOfNodes(low, high, root), cellsOfNodes(low, high)
	b := impl.NewBase()
	for i, step := range []struct {
		list []impl.Change
		want impl.Base
	}{
		{nil, impl.Base{}},
		{[]impl.Change{cellChange(high), cellChange(low), cellChange(root), {Kind: 3, Name: r}}, impl.Base{Cells: whole, Head: r}},
		{[]impl.Change{{Kind: 4, Name: h}, {Kind: 4, Name: l}}, impl.Base{Cells: whole, Head: r, Pins: []int64{l, h}}},
		{[]impl.Change{{Kind: 3, Name: 0}}, impl.Base{Cells: whole, Pins: []int64{l, h}}},
		{[]impl.Change{{Kind: 9, Name: 1}, {Kind: 6, Name: h}, {Kind: 6, Name: l}}, impl.Base{Cells: whole, Pins: []int64{l, h}, Phase: 1, Grey: []int64{h, l}}},
		{[]impl.Change{{Kind: 7}, {Kind: 8, Name: l}}, impl.Base{Cells: whole, Pins: []int64{l, h}, Phase: 1, Grey: []int64{h}, Black: []int64{l}}},
		{[]impl.Change{{Kind: 5, Name: l}}, impl.Base{Cells: whole, Pins: []int64{h}, Phase: 1, Grey: []int64{h}, Black: []int64{l}}},
		{[]impl.Change{{Kind: 7}, {Kind: 8, Name: h}}, impl.Base{Cells: whole, Pins: []int64{h}, Phase: 1, Black: []int64{l, h}}},
		{[]impl.Change{{Kind: 9, Name: 2}}, impl.Base{Cells: whole, Pins: []int64{h}, Phase: 2, Black: []int64{l, h}}},
		{[]impl.Change{{Kind: 2, Name: r}, {Kind: 10, Name: r}}, impl.Base{Cells: leaves, Pins: []int64{h}, Phase: 2, Black: []int64{l, h}, Cursor: r}},
		{[]impl.Change{{Kind: 2, Name: l}}, impl.Base{Cells: cellsOfNodes(high), Pins: []int64{h}, Phase: 2, Black: []int64{h}, Cursor: r}},
		{[]impl.Change{{Kind: 11}, {Kind: 10}, {Kind: 9}}, impl.Base{Cells: cellsOfNodes(high), Pins: []int64{h}}},
		{[]impl.Change{{Kind: 5, Name: h}, {Kind: 2, Name: h}}, impl.Base{}},
	} {
		next, is := impl.ChangedAll(b, step.list)
		if !is || !sameBase(next, step.want) {
			t.Fatalf("the step %d makes %v, %v of %v, want %v, true", i, next, is, b, step.want)
		}
		mustBeBase(t, next)
		b = next
	}
}

// P13: each kind of change, by itself where it can be, of a Base of each phase, and what it makes written out.
func TestP13EachKind(t *testing.T) {
	idle, n := handBase()
	marked, _ := markedBase()
	swept, _ := sweptBase()
	leaf := leafOf("more", 1)
	type step struct {
		b    impl.Base
		list []impl.Change
		want impl.Base
	}
	steps := []step{
		{idle, []impl.Change{{Kind: chHead, Name: n.lone}}, withHead(idle, n.lone)},
		{idle, []impl.Change{{Kind: chPin, Name: n.z}}, withPins(idle, risenNames(n.pin, n.z)...)},
		{idle, []impl.Change{{Kind: chUngrey, Name: 0}}, idle},
		{idle, []impl.Change{{Kind: chClear, Name: 7}}, idle},
		{marked, []impl.Change{{Kind: chGrey, Name: n.y}}, withGrey(marked, n.pin, n.z, n.a, n.y)},
		{marked, []impl.Change{{Kind: chGrey, Name: n.lone}, {Kind: chGrey, Name: n.one}}, withGrey(marked, n.pin, n.z, n.a, n.lone, n.one)},
		{marked, []impl.Change{{Kind: chUngrey, Name: 9}, {Kind: chGrey, Name: n.a}}, marked},
		{marked, []impl.Change{{Kind: chBlack, Name: n.y}}, withBlack(marked, risenNames(n.root, n.y)...)},
		{marked, []impl.Change{{Kind: chBlack, Name: n.root}, {Kind: chBlack, Name: n.root}}, marked},
		{marked, []impl.Change{{Kind: chClear}, {Kind: chPhase, Name: phIdle}}, idle},
		{marked, []impl.Change{{Kind: chHead, Name: 0}, {Kind: chGone, Name: n.root}}, withoutCell(withBlack(withHead(marked, 0)), n.root)},
		{swept, []impl.Change{{Kind: chBlack, Name: n.lone}}, withBlack(swept, namesOf(swept.Cells)...)},
		{swept, []impl.Change{{Kind: chBlack, Name: n.y}}, swept},
		{swept, []impl.Change{{Kind: chCursor, Name: 77}}, withCursor(swept, 77)},
		{swept, []impl.Change{{Kind: chCursor, Name: 0}}, withCursor(swept, 0)},
		{swept, []impl.Change{{Kind: chCursor, Name: math.MaxInt64}}, withCursor(swept, math.MaxInt64)},
		{swept, []impl.Change{{Kind: chUngrey}}, swept},
		{swept, []impl.Change{{Kind: chUnpin, Name: n.pin}, {Kind: chGone, Name: n.pin}}, withoutCell(withBlack(withPins(swept), less(swept.Black, n.pin)...), n.pin)},
		{swept, []impl.Change{{Kind: chClear}, {Kind: chCursor}, {Kind: chPhase, Name: phIdle}}, idle},
	}
	for _, b := range []impl.Base{idle, marked, swept} {
		steps = append(steps,
			step{b, []impl.Change{cellChange(leaf)}, withNodes(b, leaf)},
			step{b, []impl.Change{{Kind: chGone, Name: n.lone}}, withoutCell(b, n.lone)},
			step{b, []impl.Change{{Kind: chHead, Name: 0}}, withHead(b, 0)},
			step{b, []impl.Change{{Kind: chHead, Name: n.pin}}, withHead(b, n.pin)},
			step{b, []impl.Change{{Kind: chPin, Name: n.root}}, withPins(b, risenNames(n.pin, n.root)...)},
			step{b, []impl.Change{{Kind: chPin, Name: n.pin}}, b},
			step{b, []impl.Change{{Kind: chUnpin, Name: n.pin}}, withPins(b)},
			step{b, []impl.Change{{Kind: chUnpin, Name: n.root}}, b},
			step{b, []impl.Change{{Kind: chUnpin, Name: 0}, {Kind: chUnpin, Name: 5}}, b},
			step{b, []impl.Change{{Kind: chPhase, Name: b.Phase}}, b},
			step{b, []impl.Change{{Kind: chCursor, Name: b.Cursor}}, b},
		)
	}
	for _, c := range steps {
		got, is := impl.ChangedAll(c.b, c.list)
		if !is || !sameBase(got, c.want) {
			t.Fatalf("ChangedAll(%v, %v) = %v, %v, want %v, true", c.b, c.list, got, is, c.want)
		}
		mustBeBase(t, got)
	}
}

// P13: changes behind which the Base would not be right: it stays as it is.
func TestP13NotRightBehindThem(t *testing.T) {
	idle, n := handBase()
	marked, _ := markedBase()
	swept, _ := sweptBase()
	for _, b := range []impl.Base{idle, marked, swept} {
		for _, c := range []impl.Change{
			{Kind: chGone, Name: n.root}, {Kind: chGone, Name: n.pin}, {Kind: chGone, Name: n.y}, {Kind: chGone, Name: n.z}, {Kind: chGone, Name: n.one},
			{Kind: chHead, Name: 5}, {Kind: chHead, Name: math.MaxInt64}, {Kind: chPin, Name: 0}, {Kind: chPin, Name: 5}, {Kind: chPin, Name: math.MaxInt64},
			{Kind: chGrey, Name: 0}, {Kind: chGrey, Name: 5}, {Kind: chGrey, Name: n.pin}, {Kind: chGrey, Name: n.root}, {Kind: chBlack, Name: 0}, {Kind: chBlack, Name: 5},
			{Kind: chPhase, Name: 3}, {Kind: chPhase, Name: 256}, {Kind: chPhase, Name: math.MaxInt64},
		} {
			mustNotChange(t, b, c)
		}
	}
	for _, c := range []impl.Change{{Kind: chGrey, Name: n.lone}, {Kind: chBlack, Name: n.lone}, {Kind: chBlack, Name: n.root}, {Kind: chCursor, Name: 1}, {Kind: chPhase, Name: phMark}, {Kind: chPhase, Name: phSweep}} {
		mustNotChange(t, idle, c)
	}
	for _, c := range []impl.Change{{Kind: chUngrey}, {Kind: chClear}, {Kind: chBlack, Name: n.pin}, {Kind: chBlack, Name: n.one}, {Kind: chBlack, Name: n.lone}, {Kind: chCursor, Name: 1}, {Kind: chHead, Name: n.one}, {Kind: chPin, Name: n.lone}, {Kind: chPhase, Name: phSweep}, {Kind: chPhase}} {
		mustNotChange(t, marked, c)
	}
	for _, c := range []impl.Change{{Kind: chClear}, {Kind: chGrey, Name: n.lone}, {Kind: chHead, Name: n.lone}, {Kind: chPin, Name: n.lone}, {Kind: chPhase, Name: phMark}, {Kind: chPhase}} {
		mustNotChange(t, swept, c)
	}
}

// P13: a list that makes something wrong on its way, and right again; each of it but the last change does not do.
func TestP13RightOnlyBehindAllOfThem(t *testing.T) {
	idle, n := handBase()
	full := fullBase()
	root := sampleNodes()[4]
	y := sampleNodes()[0]
	lost := leafOf("lost", 4)
	sixMore := []impl.Change{}
	for _, name := range []int64{n.y, n.z, n.one, n.a, n.root, n.lone} {
		sixMore = append(sixMore, namedChange(chPin, name))
	}
	for _, c := range []struct {
		b    impl.Base
		list []impl.Change
	}{
		{idle, []impl.Change{{Kind: chHead, Name: 5}, {Kind: chHead, Name: n.a}}},
		{idle, []impl.Change{{Kind: chHead, Name: nameOfNode(lost)}, cellChange(lost)}},
		{idle, []impl.Change{{Kind: chGone, Name: n.y}, cellChange(y)}},
		{idle, []impl.Change{{Kind: chGone, Name: n.root}, {Kind: chHead, Name: 0}}},
		{idle, []impl.Change{{Kind: chGone, Name: n.root}, {Kind: chGone, Name: n.root}, cellChange(root)}},
		{idle, []impl.Change{{Kind: chGone, Name: n.pin}, {Kind: chUnpin, Name: n.pin}}},
		{idle, []impl.Change{{Kind: chPin, Name: 0}, {Kind: chUnpin, Name: 0}}},
		{idle, []impl.Change{{Kind: chPin, Name: 5}, {Kind: chUnpin, Name: 5}}},
		{idle, []impl.Change{{Kind: chPin, Name: nameOfNode(lost)}, cellChange(lost)}},
		{idle, append(slices.Clone(sixMore), namedChange(chUnpin, n.pin))},
		{idle, []impl.Change{{Kind: chCursor, Name: 5}, {Kind: chCursor, Name: 0}}},
		{idle, []impl.Change{{Kind: chPhase, Name: 3}, {Kind: chPhase, Name: 0}}},
		{idle, []impl.Change{{Kind: chGrey, Name: 5}, {Kind: chGrey, Name: 5}, {Kind: chClear, Name: 5}}},
		{idle, []impl.Change{{Kind: chGrey, Name: n.lone}, {Kind: chUngrey, Name: n.root}}},
		{idle, []impl.Change{{Kind: chBlack, Name: 5}, {Kind: chGone, Name: 5}}},
		{idle, []impl.Change{{Kind: chBlack, Name: 5}, {Kind: chBlack, Name: 0}, {Kind: chClear}}},
		{full, []impl.Change{cellChange(lost), {Kind: chGone, Name: nameOfNode(lost)}}},
		{full, []impl.Change{cellChange(lost), cellChange(y), {Kind: chGone, Name: full.Cells[0].Name}, {Kind: chGone, Name: full.Cells[1].Name}}},
		{full, []impl.Change{cellChange(lost), {Kind: chHead, Name: nameOfNode(lost)}, {Kind: chGone, Name: full.Head}}},
		{full, []impl.Change{{Kind: chPin, Name: full.Head}, {Kind: chUnpin, Name: full.Pins[0]}}},
		{full, []impl.Change{{Kind: chPin, Name: full.Head}, {Kind: chUnpin, Name: full.Head}}},
	} {
		mustChange(t, c.b, c.list...)
		mustNotChange(t, c.b, c.list[:len(c.list)-1]...)
	}
}

// P13: where there is a Cell of that name, it stays, also where the change has other Bytes.
func TestP13NamesakesStay(t *testing.T) {
	first, second := namesakes()
	b := mustChange(t, impl.NewBase(), cellChange(first), cellChange(second))
	mustHold(t, b.Cells, first)
	b = mustChange(t, b, cellChange(second), namedChange(chHead, 0))
	mustHold(t, b.Cells, first)
	b = mustChange(t, b, namedChange(chGone, nameOfNode(first)), cellChange(second))
	mustHold(t, b.Cells, second)
}

// P13: what one change would do twice, or would take away from where it is not.
func TestP13OfNoEffect(t *testing.T) {
	for _, b := range someBases() {
		names := append(namesOf(b.Cells), 0, 1, 5, math.MaxInt64)
		for _, name := range names {
			if !slices.Contains(namesOf(b.Cells), name) {
				mustLeaveAs(t, b, namedChange(chGone, name))
			}
			if slices.Contains(b.Pins, name) {
				mustLeaveAs(t, b, namedChange(chPin, name))
			} else {
				mustLeaveAs(t, b, namedChange(chUnpin, name))
			}
			if slices.Contains(b.Black, name) {
				mustLeaveAs(t, b, namedChange(chBlack, name))
			}
			if len(b.Grey) == 0 {
				mustLeaveAs(t, b, namedChange(chUngrey, name))
			}
			if len(b.Grey)+len(b.Black) == 0 {
				mustLeaveAs(t, b, namedChange(chClear, name))
			}
		}
		for _, c := range b.Cells {
			mustLeaveAs(t, b, impl.Change{Kind: chCell, Name: c.Name, Bytes: c.Bytes})
		}
		for _, c := range []impl.Change{namedChange(chHead, b.Head), namedChange(chPhase, b.Phase), namedChange(chCursor, b.Cursor)} {
			mustLeaveAs(t, b, c)
		}
	}
}

// mustLeaveAs asks for true and the Base as it is, also where the change is done often.
func mustLeaveAs(t *testing.T, b impl.Base, c impl.Change) {
	t.Helper()
	for _, list := range [][]impl.Change{{c}, {c, c, c}} {
		if got, is := impl.ChangedAll(b, list); !is || !sameBase(got, b) {
			t.Fatalf("ChangedAll(%v, %v) = %v, %v, want it as it is, true", b, list, got, is)
		}
	}
}

// P13: Grey is in order, and only a name that is not there yet may come behind; Black rises, however its names come.
func TestP13OrderOfGreyAndBlack(t *testing.T) {
	cells := cellsOfNodes(numberedLeaves(6)...)
	names := namesOf(cells)
	r := rand.New(rand.NewSource(130))
	for range 50 {
		r.Shuffle(len(names), func(i, k int) { names[i], names[k] = names[k], names[i] })
		grey, black := []impl.Change{namedChange(chPhase, phMark)}, []impl.Change{namedChange(chPhase, phSweep)}
		for i, name := range names {
			grey, black = append(grey, namedChange(chGrey, name)), append(black, namedChange(chBlack, name))
			asGrey := mustChange(t, impl.Base{Cells: cells}, grey...)
			asBlack := mustChange(t, impl.Base{Cells: cells}, black...)
			if !slices.Equal(asGrey.Grey, names[:i+1]) || !slices.Equal(asBlack.Black, risenNames(slices.Clone(names[:i+1])...)) {
				t.Fatalf("of %v Grey is %v, and Black %v", names[:i+1], asGrey.Grey, asBlack.Black)
			}
			for _, other := range names[:i+1] {
				mustNotChange(t, asGrey, namedChange(chGrey, other))
				mustNotChange(t, asGrey, namedChange(chBlack, other))
				gone := mustChange(t, asBlack, namedChange(chGone, other))
				if !slices.Equal(gone.Black, less(asBlack.Black, other)) {
					t.Fatalf("Black is %v behind ChGone of %d", gone.Black, other)
				}
			}
			for count := range i + 3 {
				left := mustChange(t, asGrey, slices.Repeat([]impl.Change{namedChange(chUngrey, names[0])}, count)...)
				if !slices.Equal(left.Grey, names[:max(0, i+1-count)]) {
					t.Fatalf("Grey is %v behind %d of %v", left.Grey, count, names[:i+1])
				}
			}
		}
	}
}

// P13: a list of 199 changes, of 200 and of more; also one that does nothing, and one that is right before it is too long.
func TestP13Limit(t *testing.T) {
	for i, b := range someBases() {
		for _, c := range []impl.Change{namedChange(chHead, b.Head), namedChange(chUnpin, 5), namedChange(chGone, 5), namedChange(chHead, 0)} {
			for _, count := range []int{199, 200} {
				mustChange(t, b, slices.Repeat([]impl.Change{c}, count)...)
			}
			for _, count := range []int{201, 202, 256, 400, 65536, 65537} {
				if i < 5 || count < 1000 {
					mustNotChange(t, b, slices.Repeat([]impl.Change{c}, count)...)
				}
			}
		}
	}
	made, gone := []impl.Change{}, []impl.Change{}
	for _, n := range numberedLeaves(100) {
		made, gone = append(made, cellChange(n)), append(gone, namedChange(chGone, nameOfNode(n)))
	}
	if got := mustChange(t, impl.NewBase(), slices.Concat(made, gone)...); !sameBase(got, impl.Base{}) {
		t.Fatalf("what is made and taken away leaves %v", got)
	}
	if got := mustChange(t, impl.NewBase(), slices.Concat(made, gone[:20])...); len(got.Cells) != maxCells {
		t.Fatalf("%d cells are left", len(got.Cells))
	}
	mustNotChange(t, impl.NewBase(), slices.Concat(made, gone[:19])...)
	mustNotChange(t, impl.NewBase(), slices.Concat(made, gone, gone[:1])...)
	mustNotChange(t, impl.NewBase(), make([]impl.Change, maxChanges+1)...)
}

// P13: one change that is not ChangeOk, at each place of a list that would be right without it.
func TestP13OneIsNoChange(t *testing.T) {
	leaf := cellChange(leafOf("new", 5))
	for _, b := range someBases() {
		right := []impl.Change{leaf, namedChange(chHead, leaf.Name), namedChange(chHead, b.Head), namedChange(chGone, leaf.Name)}
		mustChange(t, b, right...)
		for _, c := range []impl.Change{
			{}, {Kind: 12}, {Kind: -1}, {Kind: 256 + chHead}, {Kind: chHead, Name: -1}, {Kind: chGone, Name: math.MinInt64}, {Kind: chUngrey, Name: -1}, {Kind: chClear, Name: -1},
			{Kind: chUnpin, Name: -5}, {Kind: chHead, Name: b.Head, Bytes: leaf.Bytes}, {Kind: chClear, Bytes: []byte{0}}, {Kind: chCell}, {Kind: chCell, Name: leaf.Name},
			{Kind: chCell, Name: leaf.Name + 1, Bytes: leaf.Bytes}, {Kind: chCell, Name: impl.NameOf(leaf.Bytes[1:]), Bytes: leaf.Bytes[1:]},
		} {
			for i := range len(right) + 1 {
				mustNotChange(t, b, slices.Insert(slices.Clone(right), i, c)...)
			}
			mustNotChange(t, b, c)
		}
	}
}

// P13: the Head: 0, one that is there, and one from which something is reached that is not there.
func TestP13Heads(t *testing.T) {
	for _, b := range startBases() {
		mustBeBase(t, withHead(b, 0))
		for _, c := range b.Cells {
			mustBeBase(t, withHead(b, c.Name))
		}
		for _, name := range []int64{1, 5, -1, -b.Head - 1, math.MaxInt64, math.MinInt64} {
			mustBeNoBase(t, withHead(b, name))
		}
	}
	hand, n := handBase()
	for _, name := range []int64{n.y, n.z, n.one, n.a, n.root} {
		mustBeNoBase(t, withoutCell(withPins(hand), name))
		mustBeBase(t, withoutCell(withPins(withHead(hand, 0)), name))
	}
	mustBeBase(t, withoutCell(hand, n.lone))
	far := forkOf("", impl.Kid{At: 0, Name: n.y}, impl.Kid{At: 1, Name: 5}, impl.Kid{At: 2, Name: n.z})
	above := stemOf(nameOfNode(far), 3)
	lost := withNodes(hand, far, above)
	mustBeBase(t, lost)
	for _, name := range []int64{nameOfNode(far), nameOfNode(above)} {
		mustBeNoBase(t, withHead(lost, name))
		mustBeNoBase(t, withPins(lost, risenNames(n.pin, name)...))
		mustNotChange(t, lost, namedChange(chHead, name))
		mustNotChange(t, lost, namedChange(chPin, name))
	}
}

// P13: Pins rise, are more than 0, at most six, and all that is reached from them is there.
func TestP13Pins(t *testing.T) {
	b := fullBase()
	names := namesOf(b.Cells)
	for count := range 20 {
		pins := names[30 : 30+count]
		if count > maxPins {
			mustBeNoBase(t, withPins(b, pins...))
			continue
		}
		mustBeBase(t, withPins(b, pins...))
		if count > 1 {
			mustBeNoBase(t, withPins(b, turned(pins)...))
			mustBeNoBase(t, withPins(b, append(slices.Clone(pins[:count-1]), pins[count-2])...))
			mustBeNoBase(t, withPins(b, slices.Concat(pins[1:2], pins[:1], pins[2:])...))
		}
		if count > 0 && count < maxPins {
			for _, name := range []int64{0, -1, 1, math.MinInt64} {
				mustBeNoBase(t, withPins(b, more(pins, name)...))
			}
			for _, name := range []int64{0, names[0], names[30], names[29+count], math.MaxInt64} {
				mustBeNoBase(t, withPins(b, append(slices.Clone(pins), name)...))
			}
			mustBeBase(t, withPins(b, more(pins, names[0])...))
			mustBeBase(t, withPins(b, more(pins, names[79])...))
		}
	}
	for _, pins := range [][]int64{{0}, {-1}, {5}, {math.MaxInt64}, {math.MinInt64}, make([]int64, 7), names, slices.Repeat(names[:1], 2), slices.Repeat(names[:1], 70000)} {
		mustBeNoBase(t, impl.Base{Cells: b.Cells, Pins: pins})
		mustBeNoBase(t, impl.Base{Cells: b.Cells, Head: names[3], Pins: pins})
	}
	mustNotChange(t, b, namedChange(chPin, names[0]))
	mustNotChange(t, b, namedChange(chPin, b.Head))
	mustLeaveAs(t, b, namedChange(chPin, b.Pins[3]))
	hand, n := handBase()
	for _, gone := range []int64{n.pin, n.z} {
		mustBeNoBase(t, withoutCell(withHead(hand, 0), gone))
	}
}

// P13: what is kept is Head and Pins, rising, each once, without 0.
func TestP13Kept(t *testing.T) {
	cells := cellsOfNodes(numberedLeaves(8)...)
	names := namesOf(cells)
	for mask := range 1 << len(names) {
		pins := []int64{}
		for i, name := range names {
			if mask>>i&1 == 1 {
				pins = append(pins, name)
			}
		}
		for _, head := range append([]int64{0}, names...) {
			b := impl.Base{Cells: cells, Head: head, Pins: pins}
			want := slices.Clone(pins)
			if head != 0 && !slices.Contains(pins, head) {
				want = risenNames(append(want, head)...)
			}
			if len(pins) > maxPins {
				want = nil
			}
			if got := impl.KeptBy(b); !slices.Equal(got, want) || impl.BaseOk(b) != (len(pins) <= maxPins) {
				t.Fatalf("KeptBy(%v) = %v, want %v", b, got, want)
			}
		}
	}
}

// P13: a Phase that there is not, of a Base that is right but for that; and each of the others.
func TestP13Phases(t *testing.T) {
	for _, b := range someBases() {
		for _, phase := range []int64{-1, -2, 3, 4, 255, 256, 257, 258, 1 << 32, 1<<32 + 1, math.MaxInt64, math.MinInt64, math.MinInt64 + 1} {
			mustBeNoBase(t, withPhase(b, phase))
			if phase >= 0 {
				mustNotChange(t, b, namedChange(chPhase, phase))
			}
		}
		for phase := range int64(3) {
			mustBe(t, withPhase(b, phase))
			mustTry(t, b, namedChange(chPhase, phase))
		}
	}
	for phase := range int64(3) {
		for other := range int64(3) {
			mustChange(t, withPhase(impl.Base{}, phase), namedChange(chPhase, other))
		}
	}
}

// P13: PhIdle has nothing grey, nothing black and no Cursor.
func TestP13Idle(t *testing.T) {
	for _, b := range startBases() {
		mustBeBase(t, b)
		for _, name := range append(namesOf(b.Cells), 0, 5, -1) {
			mustBeNoBase(t, withGrey(b, name))
			mustBeNoBase(t, withBlack(b, name))
		}
		if len(b.Cells) > 0 {
			mustBeNoBase(t, withGrey(b, namesOf(b.Cells)...))
			mustBeNoBase(t, withBlack(b, namesOf(b.Cells)...))
		}
		for _, cursor := range []int64{1, -1, 7, math.MaxInt64, math.MinInt64} {
			mustBeNoBase(t, withCursor(b, cursor))
		}
	}
}

// P13: PhMark, by hand: what is grey and what is black.
func TestP13Mark(t *testing.T) {
	b, n := markedBase()
	both := func(grey, black []int64) impl.Base { return withBlack(withGrey(b, grey...), risenNames(black...)...) }
	for _, right := range []impl.Base{
		b, withGrey(b, n.a, n.z, n.pin), withGrey(b, n.pin, n.a, n.z), withGrey(b, n.pin, n.a, n.z, n.lone), withGrey(b, n.lone, n.one, n.y, n.a, n.z, n.pin),
		both([]int64{n.root, n.pin}, nil), both([]int64{n.pin, n.root}, nil), both([]int64{n.pin, n.root, n.lone, n.y}, nil), both([]int64{n.root, n.a, n.pin}, nil),
		both(b.Grey, []int64{n.root, n.y}), both([]int64{n.root}, []int64{n.pin, n.z}), both([]int64{n.root, n.z}, []int64{n.pin}),
		both(nil, []int64{n.root, n.pin, n.a, n.one, n.y, n.z}), both(nil, namesOf(b.Cells)), both([]int64{n.lone}, []int64{n.root, n.pin, n.a, n.one, n.y, n.z}),
		both([]int64{n.one}, []int64{n.root, n.pin, n.a, n.z}), both([]int64{n.y}, []int64{n.root, n.pin, n.a, n.one, n.z}),
		withPins(b, risenNames(n.pin, n.a, n.z)...), withHead(b, 0), withPins(withHead(b, n.a), n.root),
	} {
		mustBeBase(t, right)
	}
	for _, wrong := range []impl.Base{
		// two are alike
		withGrey(b, n.pin, n.z, n.a, n.a), withGrey(b, n.pin, n.z, n.a, n.pin), withGrey(b, n.pin, n.pin, n.z, n.a), withGrey(b, n.a, n.pin, n.z, n.a),
		withBlack(b, n.root, n.root), both(b.Grey, []int64{n.root, n.y, n.y}), withBlack(b, turned(risenNames(n.root, n.y))...),
		// in both
		withGrey(b, n.pin, n.z, n.a, n.root), withGrey(b, n.root, n.pin, n.z, n.a), both(b.Grey, []int64{n.root, n.z}), both(b.Grey, []int64{n.root, n.pin}),
		// of no cell
		withGrey(b, n.pin, n.z, n.a, 0), withGrey(b, 0, n.pin, n.z, n.a), withGrey(b, n.pin, n.z, n.a, 5), withGrey(b, n.pin, n.z, n.a, -5), withGrey(b, n.pin, n.z, n.a, math.MaxInt64),
		withBlack(b, 0, n.root), withBlack(b, 5, n.root), withBlack(b, -5, n.root), withBlack(b, n.root, math.MaxInt64), withBlack(b, n.root, 0), withBlack(b, n.root, 5),
		// one that is kept, or a Kid of a black one, in neither
		withGrey(b, n.z, n.a), withGrey(b, n.pin, n.a), withGrey(b, n.pin, n.z), withGrey(b, n.a), withGrey(b, n.pin), withGrey(b),
		withBlack(b), withBlack(b, n.y), withBlack(b, n.lone), both(nil, nil), both([]int64{n.root}, nil), both([]int64{n.pin}, nil), both([]int64{n.root}, []int64{n.pin}),
		both(nil, []int64{n.root, n.pin, n.a, n.one, n.z}), both(nil, []int64{n.root, n.pin, n.a, n.one, n.y}), both(b.Grey, []int64{n.root, n.one}), both(b.Grey, []int64{n.root, n.lone}),
		withHead(b, n.one), withHead(b, n.lone), withPins(b, n.y), withPins(b, risenNames(n.pin, n.one)...),
		// with a Cursor
		withCursor(b, 1), withCursor(b, -1), withCursor(b, math.MaxInt64), withCursor(b, n.root),
	} {
		mustBeNoBase(t, wrong)
	}
}

// P13: what is grey may be needed by nobody, but all that is reached from it must be there; of what is black the Kids must be found.
func TestP13MarkReaches(t *testing.T) {
	b, n := markedBase()
	gap := stemOf(5, 1)
	above := stemOf(nameOfNode(gap), 2)
	top := forkOf("t", impl.Kid{At: 0, Name: nameOfNode(above)}, impl.Kid{At: 1, Name: n.lone})
	b = withNodes(b, gap, above, top)
	mustBeBase(t, b)
	for _, name := range []int64{nameOfNode(gap), nameOfNode(above), nameOfNode(top)} {
		mustBeNoBase(t, withGrey(b, n.pin, n.z, n.a, name))
		mustBeNoBase(t, withGrey(b, name, n.pin, n.z, n.a))
		mustBeNoBase(t, withBlack(b, more(b.Black, name)...))
		mustNotChange(t, b, namedChange(chGrey, name))
		mustNotChange(t, b, namedChange(chBlack, name))
	}
	mustBeNoBase(t, withGrey(withBlack(b, more(b.Black, nameOfNode(above))...), n.pin, n.z, n.a, nameOfNode(gap)))
	low := nameOfNode(leafOf("low"))
	stem := nameOfNode(stemOf(low, 1))
	nobodys := impl.Base{Cells: cellsOfNodes(leafOf("low"), stemOf(low, 1)), Phase: phMark}
	mustBeBase(t, withGrey(nobodys, stem))
	mustBeNoBase(t, withBlack(nobodys, stem))
	mustBeBase(t, withGrey(withBlack(nobodys, stem), low))
	mustBeBase(t, withBlack(nobodys, risenNames(stem, low)...))
	self := nameOfNode(selfNamed())
	alone := impl.Base{Cells: cellsOfNodes(selfNamed()), Phase: phMark, Head: self}
	mustBeBase(t, withBlack(alone, self))
	mustBeBase(t, withGrey(alone, self))
	mustBeNoBase(t, alone)
}

// P13: the Kids of a black one, as many as there may be, each of them in neither.
func TestP13MarkAsksForEachKid(t *testing.T) {
	leaves := numberedLeaves(16)
	kids := []impl.Kid{}
	for i, n := range leaves {
		kids = append(kids, impl.Kid{At: int64(i), Name: nameOfNode(n)})
	}
	top := forkOf("", kids...)
	b := impl.Base{Cells: cellsOfNodes(append(leaves, top)...), Phase: phMark, Black: []int64{nameOfNode(top)}}
	for _, n := range leaves {
		b.Grey = append(b.Grey, nameOfNode(n))
	}
	for _, head := range []int64{0, nameOfNode(top)} {
		b.Head = head
		mustBeBase(t, b)
		for _, name := range b.Grey {
			missed := withGrey(b, less(b.Grey, name)...)
			mustBeNoBase(t, missed)
			mustBeBase(t, withBlack(missed, more(b.Black, name)...))
			mustBeBase(t, withGrey(b, append(less(b.Grey, name), name)...))
		}
	}
}

// P13: PhSweep: nothing grey, all that is reached from what is kept is black, and the Cursor is from 0 on.
func TestP13Sweep(t *testing.T) {
	b, n := sweptBase()
	for _, cursor := range []int64{0, 1, 77, n.lone, b.Cells[6].Name, math.MaxInt64} {
		mustBeBase(t, withCursor(b, cursor))
	}
	for _, cursor := range []int64{-1, -77, -n.lone, math.MinInt64} {
		mustBeNoBase(t, withCursor(b, cursor))
	}
	for _, name := range append(namesOf(b.Cells), 0, 5, -5) {
		mustBeNoBase(t, withGrey(b, name))
	}
	for _, name := range b.Black {
		mustBeNoBase(t, withBlack(b, less(b.Black, name)...))
		mustBeNoBase(t, withGrey(withBlack(b, less(b.Black, name)...), name))
		mustBeNoBase(t, withBlack(b, more(less(b.Black, name), n.lone)...))
	}
	mustBeNoBase(t, withBlack(b))
	mustBeBase(t, withBlack(b, namesOf(b.Cells)...))
	mustBeBase(t, withBlack(withHead(withPins(b), 0)))
	mustBeBase(t, withBlack(withPins(b), less(b.Black, n.pin)...))
	mustBeBase(t, withBlack(withHead(b, 0), risenNames(n.pin, n.z)...))
	mustBeNoBase(t, withBlack(withHead(b, 0), n.pin))
	mustBeBase(t, withBlack(withHead(withPins(b), 0), n.lone)) // its Kid, which is kept by nobody, need not be black
}

// P13: in PhSweep, too, what is black rises and is of cells; else there would be no place for one more.
func TestP13SweepBlackRises(t *testing.T) {
	b, _ := sweptBase()
	for i, name := range b.Black {
		mustBeNoBase(t, withBlack(b, more(b.Black, name)...))
		if i < len(b.Black)-1 {
			mustBeNoBase(t, withBlack(b, append(less(b.Black, name), name)...))
		}
	}
	for _, name := range []int64{0, 5, -5, math.MinInt64, math.MaxInt64} {
		mustBeNoBase(t, withBlack(b, more(b.Black, name)...))
		if name >= 0 {
			mustNotChange(t, b, namedChange(chBlack, name))
		}
	}
	mustBeNoBase(t, withBlack(b, turned(b.Black)...))
}

// P13: cells that are not right, and more of them than there may be.
func TestP13Cells(t *testing.T) {
	for _, cells := range badCells() {
		mustBeNoBase(t, impl.Base{Cells: cells})
		for _, c := range cells {
			mustBeNoBase(t, impl.Base{Cells: cells, Head: c.Name})
			mustBeNoBase(t, impl.Base{Cells: cells, Pins: []int64{c.Name}, Phase: phMark, Grey: []int64{c.Name}})
			mustBeNoBase(t, impl.Base{Cells: cells, Phase: phSweep, Black: []int64{c.Name}})
		}
	}
	for _, count := range []int{maxCells + 1, maxCells + 2, 256, 336, 1000} {
		mustBeNoBase(t, impl.Base{Cells: cellsOfNodes(numberedLeaves(count)...)})
	}
	full := fullBase()
	mustBeBase(t, full)
	for i, n := range numberedLeaves(maxCells + 4) {
		if i < maxCells {
			mustLeaveAs(t, full, cellChange(n))
			continue
		}
		mustNotChange(t, full, cellChange(n))
		mustChange(t, full, cellChange(n), namedChange(chGone, full.Cells[0].Name))
		mustChange(t, full, namedChange(chGone, full.Cells[0].Name), cellChange(n))
	}
}

// bentNames are what a list becomes by a name.
func bentNames(names []int64, name int64) [][]int64 {
	return [][]int64{slices.Concat(names, []int64{name}), slices.Concat([]int64{name}, names), more(names, name), less(names, name), turned(more(names, name))}
}

// bentBases are what a right Base becomes when one part of it is another one, right again or not.
func bentBases(b impl.Base) []impl.Base {
	_, other := namesakes()
	list := []impl.Base{withNodes(b, leafOf("bent", 7)), withNodes(b, stemOf(5, 7)), withNodes(b, other), withCursor(b, 1), withCursor(b, -1)}
	for phase := int64(-1); phase < 4; phase++ {
		list = append(list, withPhase(b, phase), withPhase(withGrey(withBlack(withCursor(b, 0))), phase))
	}
	for _, name := range append(namesOf(b.Cells), 0, 5, -5, math.MaxInt64) {
		list = append(list, withHead(b, name), withCursor(b, name), withoutCell(b, name))
		for _, names := range bentNames(b.Pins, name) {
			list = append(list, withPins(b, names...))
		}
		for _, names := range bentNames(b.Grey, name) {
			list = append(list, withGrey(b, names...), withGrey(withBlack(b, less(b.Black, name)...), names...))
		}
		for _, names := range bentNames(b.Black, name) {
			list = append(list, withBlack(b, names...), withBlack(withGrey(b, less(b.Grey, name)...), names...))
		}
	}
	return list
}

// P13: each part of a right Base of each phase, bent in each way; then each part of what was bent in one.
func TestP13EachPartBent(t *testing.T) {
	r := rand.New(rand.NewSource(131))
	right, wrong := map[int64]int{}, map[int64]int{}
	count := func(b impl.Base) {
		if mustBe(t, b) {
			right[b.Phase]++
		} else {
			wrong[b.Phase]++
		}
	}
	for _, b := range someBases() {
		mustBeBase(t, b)
		for _, bent := range bentBases(b) {
			if len(b.Cells) > 20 && r.Intn(100) > 0 {
				continue
			}
			count(bent)
			if r.Intn(30) == 0 {
				twice := bentBases(bent)
				for range 10 {
					count(twice[r.Intn(len(twice))])
				}
			}
		}
	}
	for phase := range int64(3) {
		if right[phase] < 300 || wrong[phase] < 300 {
			t.Fatalf("%v are right by phase, %v are not", right, wrong)
		}
	}
}

// drawnStep is a change that may do something to the Base, of any kind.
func drawnStep(r *rand.Rand, b impl.Base) impl.Change {
	kind := int64(1 + r.Intn(11))
	name := r.Int63() >> r.Intn(63)
	if len(b.Cells) > 0 && r.Intn(8) > 0 {
		name = b.Cells[r.Intn(len(b.Cells))].Name
	}
	switch kind {
	case chCell:
		if len(b.Cells) > 0 && r.Intn(2) == 0 {
			return cellChange(stemOf(name, int64(r.Intn(16))))
		}
		return cellChange(drawnNode(r))
	case chPhase:
		name = int64(r.Intn(4))
	case chCursor:
		name *= int64(r.Intn(2))
	}
	return namedChange(kind, name)
}

// drawnSteps are some of these, often around a step of the sweep.
func drawnSteps(r *rand.Rand, b impl.Base) []impl.Change {
	list := []impl.Change{}
	for range r.Intn(4) {
		list = append(list, drawnStep(r, changedByWords(b, list)))
	}
	if r.Intn(2) == 0 {
		place := r.Intn(len(list) + 1)
		list = slices.Insert(list, place, nextStep(b)...)
	}
	return list
}

// P13: draws of changes, one list behind the other: what is true is what the changes make, and right; what is false leaves the Base as it is.
func TestP13Draws(t *testing.T) {
	r := rand.New(rand.NewSource(132))
	bases := someBases()
	done, not := map[int64]int{}, 0
	for range 400 {
		b := bases[r.Intn(len(bases))]
		if len(b.Cells) > 20 && r.Intn(5) > 0 {
			continue
		}
		for range 60 {
			list := drawnSteps(r, b)
			if !mustTry(t, b, list...) {
				not++
				continue
			}
			for _, c := range list {
				done[c.Kind]++
			}
			b, _ = impl.ChangedAll(b, list)
		}
	}
	for kind := int64(1); kind < 12; kind++ {
		if done[kind] < 100 || not < 1000 {
			t.Fatalf("by kind %v are done, %d lists are not", done, not)
		}
	}
}

// P13: a base stays right through whole cycles of a sweep, and behind a cycle just what is kept is there.
func TestP13Cycles(t *testing.T) {
	for _, b := range startBases() {
		needed, _ := reachByWords(thereIn(b.Cells), keptByWords(b)...)
		steps := 0
		for {
			b = mustChange(t, b, nextStep(b)...)
			steps++
			if b.Phase == phIdle {
				break
			}
		}
		if left := namesOf(b.Cells); !slices.Equal(left, slices.Sorted(maps.Keys(needed))) || steps > 3*maxCells+3 {
			t.Fatalf("behind %d steps %v are left, want %v", steps, left, needed)
		}
	}
}

// P13: changes in two parts are the changes, where the Base is right in between.
func TestP13InParts(t *testing.T) {
	r := rand.New(rand.NewSource(133))
	bases := someBases()
	parted := 0
	for range 3000 {
		b := bases[r.Intn(len(bases))]
		list := slices.Concat(drawnSteps(r, b), drawnSteps(r, b))
		first, is := impl.ChangedAll(b, list[:len(list)/2])
		if !is {
			continue
		}
		parted++
		second, is := impl.ChangedAll(first, list[len(list)/2:])
		all, once := impl.ChangedAll(b, list)
		if is != once || is && !sameBase(second, all) || !is && !sameBase(second, first) {
			t.Fatalf("%v in two parts makes %v, %v of %v, and at once %v, %v", list, second, is, b, all, once)
		}
	}
	if parted < 500 {
		t.Fatalf("%d are parted", parted)
	}
}

// strangeBase is drawn, its cells from these pools; it is often not right.
func strangeBase(r *rand.Rand, pools [][]impl.Cell) impl.Base {
	cells, head := drawnCells(r, pools)
	name := func() int64 {
		if len(cells) > 0 && r.Intn(8) > 0 {
			return cells[r.Intn(len(cells))].Name
		}
		return int64(r.Uint64()) >> r.Intn(64)
	}
	names := func(most int) []int64 {
		list := []int64{}
		for range r.Intn(most + 1) {
			list = append(list, name())
		}
		if r.Intn(3) > 0 {
			slices.Sort(list)
		}
		return list
	}
	b := impl.Base{Cells: cells, Phase: int64(r.Intn(3))}
	for range r.Intn(4) {
		switch r.Intn(6) {
		case 0:
			b.Head = head
		case 1:
			b.Pins = names(3)
		case 2:
			b.Phase = int64(r.Uint64()) >> r.Intn(64)
		case 3:
			b.Grey = names(4)
		case 4:
			b.Black = names(maxCells)
		case 5:
			b.Cursor = name()
		}
	}
	return b
}

// P19: whatever the Base and the changes are, there is an answer, and it is what the document's words tell.
func TestP19BasesAnswerAlways(t *testing.T) {
	r := rand.New(rand.NewSource(134))
	pools := append(slices.Repeat(someCells(), 6), badCells()...)
	right, wrong := 0, 0
	for range 5000 {
		b := strangeBase(r, pools)
		if !mustBe(t, b) {
			wrong++
			continue
		}
		right++
		mustTry(t, b, strangeChange(r), drawnStep(r, b))
	}
	if right < 500 || wrong < 2000 {
		t.Fatalf("%d are right, %d are not", right, wrong)
	}
	hand, n := handBase()
	for phase := range int64(3) {
		b := withPhase(hand, phase)
		for _, list := range [][]int64{upTo(1 << 18), upTo(1 << 18)[1:], make([]int64, 1<<18), slices.Repeat([]int64{n.root}, 1<<18)} {
			mustBeNoBase(t, withPins(b, list...))
			mustBeNoBase(t, withGrey(b, list...))
			mustBeNoBase(t, withBlack(b, list...))
		}
	}
	mustBeNoBase(t, impl.Base{Cells: make([]impl.Cell, 1<<20)})
	mustNotChange(t, hand, make([]impl.Change, 1<<20)...)
	mustNotChange(t, hand, slices.Repeat([]impl.Change{namedChange(chClear, 0)}, 1<<20)...)
}

// mustLeaveBase fails when a call writes into a Base, or into the spare room behind any of its lists.
func mustLeaveBase(t *testing.T, b impl.Base, call func(arg impl.Base)) {
	t.Helper()
	mustLeave(t, b.Cells, func(cells []impl.Cell) {
		mustStay(t, b.Pins, sparePath, func(pins []int64) {
			mustStay(t, b.Grey, sparePath, func(grey []int64) {
				mustStay(t, b.Black, sparePath, func(black []int64) {
					arg := b
					arg.Cells, arg.Pins, arg.Grey, arg.Black = cells, pins, grey, black
					call(arg)
				})
			})
		})
	})
}

// baseAnswers is what each function of the chapter answers, in a text; nothing and nil are the same there.
func baseAnswers(b impl.Base, list []impl.Change) string {
	after, is := impl.ChangedAll(b, list)
	return fmt.Sprintln(impl.BaseOk(b), impl.KeptBy(b), after, is)
}

// baseCalls are bases, right ones and others, each with lists of changes that are done and that are not.
func baseCalls(call func(b impl.Base, list []impl.Change)) {
	r := rand.New(rand.NewSource(135))
	leaf := cellChange(leafOf("new", 5))
	bases := someBases()
	pools := append(someCells(), badCells()...)
	for range 40 {
		bases = append(bases, strangeBase(r, pools))
	}
	for _, b := range bases {
		lists := [][]impl.Change{
			nil, nextStep(b), {leaf}, {leaf, {}}, {{Kind: chHead, Name: 5}}, {{Kind: chClear}, {Kind: chPhase}, {Kind: chCursor}},
			{{Kind: chUngrey}, {Kind: chUngrey}}, {{Kind: chPin, Name: b.Head}, {Kind: chBlack, Name: b.Head}}, {{Kind: chUnpin, Name: b.Head}, {Kind: chGone, Name: b.Head}},
		}
		if len(b.Pins) > 0 {
			lists = append(lists, []impl.Change{{Kind: chUnpin, Name: b.Pins[0]}, {Kind: chGone, Name: b.Pins[0]}})
		}
		for range 3 {
			lists = append(lists, drawnSteps(r, b))
		}
		for _, list := range lists {
			call(b, list)
		}
	}
}

// P19: a Base and changes stay, and so does the spare room behind each of their lists; no answer depends on that room.
func TestP19BasesLeaveTheirArguments(t *testing.T) {
	baseCalls(func(b impl.Base, list []impl.Change) {
		want := baseAnswers(cloneBase(b), changeLists.clone(list))
		mustLeaveBase(t, b, func(b impl.Base) {
			changeLists.mustLeave(t, list, oneOfEach(), func(list []impl.Change) {
				if got := baseAnswers(b, list); got != want {
					t.Fatalf("of %v, %v with spare room: %s, without: %s", b, list, got, want)
				}
			})
		})
	})
}

// spoilBase writes into all that a Base holds, the spare room behind each of its lists included.
func spoilBase(b impl.Base) {
	spoilCells(b.Cells)
	spoil(b.Pins)
	spoil(b.Grey)
	spoil(b.Black)
}

// mustBeApart fails when two of these lists share memory, spare room included; it writes into all of them.
func mustBeApart(t *testing.T, lists ...[]int64) {
	t.Helper()
	for i, list := range lists {
		for k := range list[:cap(list)] {
			list[:cap(list)][k] = int64(i)
		}
	}
	for i, list := range lists {
		for _, mark := range list[:cap(list)] {
			if mark != int64(i) {
				t.Fatalf("the lists %d and %d share memory", i, mark)
			}
		}
	}
}

// P19: a Base that is answered is new memory: none of its lists shares any with another one, with an argument or with another answer, spare room included.
func TestP19BasesAreNewMemory(t *testing.T) {
	baseCalls(func(b impl.Base, list []impl.Change) {
		var first, second impl.Base
		mustLeaveBase(t, b, func(b impl.Base) {
			changeLists.mustLeave(t, list, oneOfEach(), func(list []impl.Change) {
				first, _ = impl.ChangedAll(b, list)
				second, _ = impl.ChangedAll(b, list)
				mustBeApart(t, first.Pins, first.Grey, first.Black, second.Pins, second.Grey, second.Black)
				spoilCells(first.Cells)
				spoilCells(second.Cells)
			})
		})
		mustBeNewCells(t, b.Cells, func(cells []impl.Cell) []impl.Cell {
			arg := b
			arg.Cells = cells
			after, _ := impl.ChangedAll(arg, list)
			return after.Cells
		})
		arg, changes := cloneBase(b), changeLists.clone(list)
		got, _ := impl.ChangedAll(arg, changes)
		want := cloneBase(got)
		spoilBase(arg)
		changeLists.spoil(changes)
		if !sameBase(got, want) {
			t.Fatalf("%v is %v once the arguments are written into", want, got)
		}
	})
}

// P19: what is kept is told in new memory.
func TestP19KeptIsNewMemory(t *testing.T) {
	for _, b := range someBases() {
		mustLeaveBase(t, b, func(arg impl.Base) {
			mustBeNew(t, func() []int64 { return impl.KeptBy(arg) })
			mustBeApart(t, impl.KeptBy(arg), impl.KeptBy(arg))
		})
		arg := cloneBase(b)
		kept := impl.KeptBy(arg)
		spoil(arg.Pins)
		if !slices.Equal(kept, keptByWords(b)) {
			t.Fatalf("%v is %v once the Pins are written into", keptByWords(b), kept)
		}
	}
}

// P19: what is told of a Base depends on no other call.
func TestP19BasesOfOtherTimes(t *testing.T) {
	bases := someBases()
	for i, b := range bases {
		want := baseAnswers(b, nextStep(b))
		after, _ := impl.ChangedAll(b, nextStep(b))
		before := cloneBase(after)
		impl.ChangedAll(after, nextStep(after))
		impl.ChangedAll(bases[(i+1)%len(bases)], nextStep(bases[(i+1)%len(bases)]))
		impl.ChangedAll(withPhase(b, 3), nextStep(b))
		if got := baseAnswers(b, nextStep(b)); got != want || !sameBase(after, before) {
			t.Fatalf("of %v it is %s behind other calls, want %s", b, got, want)
		}
	}
}
