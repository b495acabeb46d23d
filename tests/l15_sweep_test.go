package tests

import (
	"fmt"
	"maps"
	"math"
	"math/rand"
	"slices"
	"testing"

	"loop.example/g00754/impl"
)

// garbageByWords is what the document's words tell of the cells that nobody needs.
func garbageByWords(b impl.Base) []int64 {
	needed := neededByWords(b)
	return slices.DeleteFunc(namesOf(b.Cells), func(name int64) bool { return needed[name] })
}

// neededByWords is all that is reached from what is kept.
func neededByWords(b impl.Base) map[int64]bool {
	needed, _ := reachByWords(thereIn(b.Cells), keptByWords(b)...)
	return needed
}

// stayByWords are the cells that are there once the sweep has ended, when nothing else is done: what is found, or what was looked at already.
func stayByWords(b impl.Base) []int64 {
	stays := neededByWords(b)
	switch b.Phase {
	case phMark:
		stays, _ = reachByWords(thereIn(b.Cells), slices.Concat(b.Grey, b.Black)...)
	case phSweep:
		for _, name := range namesOf(b.Cells) {
			stays[name] = name <= b.Cursor || slices.Contains(b.Black, name)
		}
	}
	return slices.DeleteFunc(namesOf(b.Cells), func(name int64) bool { return !stays[name] })
}

// mustAnswerStep asks for just these changes, and for a right Base behind them, which is answered.
func mustAnswerStep(t *testing.T, b impl.Base, want ...impl.Change) impl.Base {
	t.Helper()
	got, code := impl.SweepOf(b)
	if code != cmOk || !changeLists.alike(got, want) {
		t.Fatalf("SweepOf(%v) = %v, %d, want %v, %d", b, got, code, want, cmOk)
	}
	return mustChange(t, b, got...)
}

// mustSweep asks of a right Base for what the document's words tell; the Base behind one step is answered.
func mustSweep(t *testing.T, b impl.Base) impl.Base {
	t.Helper()
	if got, want := impl.GarbageIn(b), garbageByWords(b); !slices.Equal(got, want) {
		t.Fatalf("GarbageIn(%v) = %v, want %v", b, got, want)
	}
	if got, want := impl.CycleBound(b), int64(3*len(b.Cells)+3); got != want {
		t.Fatalf("CycleBound(%v) = %d, want %d", b, got, want)
	}
	return mustAnswerStep(t, b, nextStep(b)...)
}

// mustNotSweep asks for the fixed answers at a Base that is not right.
func mustNotSweep(t *testing.T, b impl.Base) {
	t.Helper()
	if got, code := impl.SweepOf(b); code != cmBad || len(got) != 0 {
		t.Fatalf("SweepOf(%v) = %v, %d, want nothing, %d", b, got, code, cmBad)
	}
	if got := impl.GarbageIn(b); len(got) != 0 {
		t.Fatalf("GarbageIn(%v) = %v, want nothing", b, got)
	}
	if got := impl.CycleBound(b); got != -1 {
		t.Fatalf("CycleBound(%v) = %d, want -1", b, got)
	}
}

// mustStillKeep asks whether all that is reached from what was kept is there as it was, and whether each root has the map that it had.
func mustStillKeep(t *testing.T, before, after impl.Base) {
	t.Helper()
	is := map[int64]impl.Cell{}
	for _, c := range after.Cells {
		is[c.Name] = c
	}
	needed := neededByWords(before)
	for _, c := range before.Cells {
		if needed[c.Name] && !sameCell(c, is[c.Name]) {
			t.Fatalf("the cell %v of %v is lost in %v", c, before, after)
		}
	}
	for _, root := range keptByWords(before) {
		pairs, whole := impl.PairsOf(after.Cells, root)
		want, was := impl.PairsOf(before.Cells, root)
		if whole != was || !slices.Equal(pairs, want) {
			t.Fatalf("of %d in %v %v, %v is left, want %v, %v", root, before, pairs, whole, want, was)
		}
	}
}

// mustEnd asks for each step until it is PhIdle, at least for one, and for just the cells that stay; the Base behind it and how many steps there were are answered.
func mustEnd(t *testing.T, b impl.Base) (impl.Base, int) {
	t.Helper()
	end, steps, bound := b, 0, int(impl.CycleBound(b))
	for steps == 0 || end.Phase != phIdle {
		if steps == bound {
			t.Fatalf("the sweep of %v is not done within %d steps", b, bound)
		}
		end = mustSweep(t, end)
		steps++
	}
	if left, want := namesOf(end.Cells), stayByWords(b); !slices.Equal(left, want) {
		t.Fatalf("behind the sweep of %v %v are left, want %v", b, left, want)
	}
	if end.Head != b.Head || !slices.Equal(end.Pins, b.Pins) {
		t.Fatalf("the sweep makes %v of %v", end, b)
	}
	mustStillKeep(t, b, end)
	return end, steps
}

// mustCycle asks for a whole cycle from PhIdle on: it takes away just the garbage of its beginning, in as many steps as there must be.
func mustCycle(t *testing.T, b impl.Base) impl.Base {
	t.Helper()
	garbage := impl.GarbageIn(b)
	end, steps := mustEnd(t, b)
	if gone := slices.DeleteFunc(namesOf(b.Cells), func(name int64) bool { return slices.Contains(namesOf(end.Cells), name) }); !slices.Equal(gone, garbage) {
		t.Fatalf("the cycle of %v takes away %v, want %v", b, gone, garbage)
	}
	if want := 3 + 2*len(b.Cells) - len(garbage); steps != want {
		t.Fatalf("the cycle of %v has %d steps, want %d", b, steps, want)
	}
	if left := impl.GarbageIn(end); len(left) != 0 {
		t.Fatalf("%v is left of %v", left, b)
	}
	return end
}

// stepBase is PhIdle: its Head is a fork with Kids high, low, and high again; its Pin, whose name is below that of the Head, is a stem to low. Nobody needs two more.
func stepBase() (b impl.Base, low, high, root, pin int64, garbage []int64) {
	one, two := leafOf("a"), leafOf("b")
	if nameOfNode(one) > nameOfNode(two) {
		one, two = two, one
	}
	top := forkOf("", kidAt(0, two), kidAt(7, one), kidAt(9, two))
	stem := stemOf(nameOfNode(one), 1)
	for i := int64(2); nameOfNode(stem) > nameOfNode(top); i++ {
		stem = stemOf(nameOfNode(one), i)
	}
	lone := forkOf("c", kidAt(3, two))
	above := stemOf(nameOfNode(lone), 4)
	b = impl.Base{Cells: cellsOfNodes(one, two, top, stem, lone, above), Head: nameOfNode(top), Pins: []int64{nameOfNode(stem)}}
	return b, nameOfNode(one), nameOfNode(two), b.Head, b.Pins[0], risenNames(nameOfNode(lone), nameOfNode(above))
}

// P15, by hand: a whole cycle, each step written out.
func TestP15ByHand(t *testing.T) {
	b, low, high, root, pin, garbage := stepBase()
	start := b
	if got := impl.GarbageIn(b); !slices.Equal(got, garbage) || impl.CycleBound(b) != 21 {
		t.Fatalf("GarbageIn(%v) = %v, CycleBound = %d", b, got, impl.CycleBound(b))
	}
	steps := [][]impl.Change{
		{{Kind: 9, Name: 1}, {Kind: 6, Name: pin}, {Kind: 6, Name: root}},
		{{Kind: 7}, {Kind: 8, Name: root}, {Kind: 6, Name: high}, {Kind: 6, Name: low}},
		{{Kind: 7}, {Kind: 8, Name: low}},
		{{Kind: 7}, {Kind: 8, Name: high}},
		{{Kind: 7}, {Kind: 8, Name: pin}},
		{{Kind: 9, Name: 2}},
	}
	for _, name := range namesOf(b.Cells) {
		step := []impl.Change{{Kind: 10, Name: name}}
		if slices.Contains(garbage, name) {
			step = []impl.Change{{Kind: 2, Name: name}, {Kind: 10, Name: name}}
		}
		steps = append(steps, step)
	}
	steps = append(steps, []impl.Change{{Kind: 11}, {Kind: 10}, {Kind: 9}})
	for _, step := range steps {
		b = mustAnswerStep(t, b, step...)
	}
	if want := withoutCell(withoutCell(start, garbage[0]), garbage[1]); !sameBase(b, want) {
		t.Fatalf("the cycle makes %v, want %v", b, want)
	}
	if got := impl.GarbageIn(b); len(got) != 0 || impl.CycleBound(b) != 15 {
		t.Fatalf("GarbageIn(%v) = %v, CycleBound = %d", b, got, impl.CycleBound(b))
	}
	mustCycle(t, start)
	mustCycle(t, b)
}

// P15: a cycle begins with what is kept, rising, each once.
func TestP15Idle(t *testing.T) {
	b, n := handBase()
	both := risenNames(n.root, n.pin)
	all := risenNames(n.y, n.z, n.one, n.a, n.root, n.lone)
	for _, c := range []struct {
		b    impl.Base
		grey []int64
	}{
		{impl.NewBase(), nil}, {withHead(withPins(b), 0), nil}, {b, both}, {withHead(b, 0), []int64{n.pin}}, {withPins(b), []int64{n.root}},
		{withHead(b, n.pin), []int64{n.pin}}, {withPins(b, both...), both}, {withPins(b, all...), all}, {withPins(withHead(b, n.pin), all...), more(all, n.pin)},
	} {
		want := []impl.Change{namedChange(chPhase, phMark)}
		for _, name := range c.grey {
			want = append(want, namedChange(chGrey, name))
		}
		after := mustAnswerStep(t, c.b, want...)
		if !sameBase(after, withGrey(withPhase(c.b, phMark), c.grey...)) {
			t.Fatalf("the first step makes %v of %v", after, c.b)
		}
	}
}

// P15: while it is marked the last grey one is gone through, and of its Kids, in order, those are grey then that are neither black nor grey, each once: each case written out.
func TestP15Mark(t *testing.T) {
	b, n := markedBase()
	black := func(name int64) []impl.Change {
		return []impl.Change{namedChange(chUngrey, 0), namedChange(chBlack, name)}
	}
	greyed := func(name int64, kids ...int64) []impl.Change {
		list := black(name)
		for _, kid := range kids {
			list = append(list, namedChange(chGrey, kid))
		}
		return list
	}
	first := withBlack(withGrey(withHead(withPins(b), n.root), n.root))
	for _, c := range []struct {
		b    impl.Base
		want []impl.Change
	}{
		{first, greyed(n.root, n.a, n.z)}, // two Kids are z
		{withGrey(first, n.z, n.root), greyed(n.root, n.a)},
		{withGrey(first, n.a, n.root), greyed(n.root, n.z)},
		{withGrey(first, n.z, n.a, n.root), greyed(n.root)},
		{withGrey(first, n.one, n.y, n.lone, n.root), greyed(n.root, n.a, n.z)},
		{withBlack(first, n.z), greyed(n.root, n.a)},
		{withBlack(first, n.y), greyed(n.root, n.a, n.z)},
		{withBlack(withGrey(first, n.one, n.root), n.a), greyed(n.root, n.z)},
		{withBlack(withGrey(first, n.a, n.root), n.z), greyed(n.root)},
		{withBlack(withGrey(first, n.one, n.root), risenNames(n.z, n.a)...), greyed(n.root)},
		{b, greyed(n.a, n.one)}, // a stem
		{withGrey(b, n.z, n.a, n.pin), greyed(n.pin)},
		{withGrey(b, n.pin, n.a, n.z), black(n.z)}, // a leaf
		{withGrey(b, n.pin, n.z, n.a, n.one), greyed(n.one, n.y)},
		{withGrey(b, n.pin, n.z, n.one, n.a), greyed(n.a)},
		{withGrey(b, n.pin, n.z, n.y, n.a, n.one), greyed(n.one)},
		{withGrey(b, n.pin, n.z, n.a, n.lone), greyed(n.lone, n.y)}, // one that is not kept
		{withGrey(withBlack(b, risenNames(n.root, n.y)...), n.pin, n.z, n.a, n.lone), greyed(n.lone)},
	} {
		after := mustAnswerStep(t, c.b, c.want...)
		kids := []int64{}
		for _, change := range c.want[2:] {
			kids = append(kids, change.Name)
		}
		grey := slices.Concat(c.b.Grey[:len(c.b.Grey)-1], kids)
		if !sameBase(after, withGrey(withBlack(c.b, more(c.b.Black, c.want[1].Name)...), grey...)) {
			t.Fatalf("%v makes %v of %v", c.want, after, c.b)
		}
		mustEnd(t, c.b)
	}
	done := withGrey(withBlack(b, risenNames(n.y, n.z, n.one, n.a, n.root, n.pin)...))
	for _, b := range []impl.Base{withPhase(impl.Base{}, phMark), done, withBlack(done, namesOf(done.Cells)...), withHead(done, 0), withPins(done), withBlack(withHead(withPins(done), 0))} {
		if after := mustAnswerStep(t, b, namedChange(chPhase, phSweep)); !sameBase(after, withPhase(b, phSweep)) {
			t.Fatalf("with no grey one the step makes %v of %v", after, b)
		}
		mustEnd(t, b)
	}
}

// P15: the widest fork: its Kids are told by their Ats, not by their names; and each one of them again where some are alike.
func TestP15WidestFork(t *testing.T) {
	leaves := numberedLeaves(16)
	r := rand.New(rand.NewSource(150))
	for range 60 {
		kids, names := []impl.Kid{}, []int64{}
		for at := range int64(16) {
			kid := kidAt(at, leaves[r.Intn(1+r.Intn(16))])
			kids = append(kids, kid)
			if !slices.Contains(names, kid.Name) {
				names = append(names, kid.Name)
			}
		}
		top := forkOf("v", kids...)
		b := impl.Base{Cells: cellsOfNodes(append(leaves, top)...), Head: nameOfNode(top)}
		mustCycle(t, b)
		want := []impl.Change{namedChange(chUngrey, 0), namedChange(chBlack, b.Head)}
		grey, black := []int64{}, []int64{}
		for _, name := range names {
			switch r.Intn(4) {
			case 0:
				grey = append(grey, name)
			case 1:
				black = append(black, name)
			default:
				want = append(want, namedChange(chGrey, name))
			}
		}
		b = withPhase(withGrey(withBlack(b, risenNames(black...)...), append(turned(grey), b.Head)...), phMark)
		mustAnswerStep(t, b, want...)
		mustEnd(t, b)
	}
	kids := []impl.Kid{}
	for at := range int64(16) {
		kids = append(kids, kidAt(at, leaves[15-at]))
	}
	top := forkOf("v", kids...)
	b := impl.Base{Cells: cellsOfNodes(append(leaves, top)...), Head: nameOfNode(top), Phase: phMark, Grey: []int64{nameOfNode(top)}}
	if got, _ := impl.SweepOf(b); len(got) != 18 || got[2].Name != kids[0].Name || got[17].Name != kids[15].Name {
		t.Fatalf("SweepOf(%v) = %v", b, got)
	}
	mustCycle(t, withPhase(withGrey(b), phIdle))
}

// P15: what is its own Kid is black by then; it is not grey again.
func TestP15OwnKid(t *testing.T) {
	stem, fork := nameOfNode(selfNamed()), nameOfNode(selfForked())
	b := impl.Base{Cells: cellsOfNodes(selfNamed(), selfForked(), leafOf("a")), Pins: risenNames(stem, fork)}
	mustCycle(t, b)
	b = withPhase(withGrey(b, stem, fork), phMark)
	b = mustAnswerStep(t, b, namedChange(chUngrey, 0), namedChange(chBlack, fork))
	b = mustAnswerStep(t, b, namedChange(chUngrey, 0), namedChange(chBlack, stem))
	mustAnswerStep(t, b, namedChange(chPhase, phSweep))
	for _, alone := range []impl.Base{withHead(withPins(b), stem), withHead(withPins(b), fork), withPins(b)} {
		alone = withBlack(withPhase(alone, phIdle))
		mustCycle(t, alone)
	}
}

// P15: once all is found, cells are looked at from the Cursor on, by name; what is not black goes.
func TestP15Sweep(t *testing.T) {
	swept, n := sweptBase()
	names := namesOf(swept.Cells)
	for _, b := range []impl.Base{
		swept, withBlack(swept, names...), withHead(swept, 0), withPins(swept), withBlack(withPins(withHead(swept, 0))), withBlack(withPins(withHead(swept, 0)), n.lone),
		withBlack(withPins(withHead(swept, n.one)), risenNames(n.one, n.y)...), withBlack(withPins(withHead(swept, 0), n.z), risenNames(n.z, n.lone, n.pin)...),
	} {
		last := int64(0)
		for _, name := range names {
			want := []impl.Change{namedChange(chGone, name), namedChange(chCursor, name)}
			after := withBlack(withoutCell(withCursor(b, name), name), less(b.Black, name)...)
			if slices.Contains(b.Black, name) {
				want, after = want[1:], withCursor(b, name)
			}
			for _, cursor := range []int64{last, last + 1, last + (name-last)/2, name - 1} {
				if got := mustAnswerStep(t, withCursor(b, cursor), want...); !sameBase(got, after) {
					t.Fatalf("%v makes %v of %v, want %v", want, got, b, after)
				}
			}
			mustEnd(t, withCursor(b, last))
			last = name
		}
		for _, cursor := range []int64{last, last + 1, math.MaxInt64 - 1, math.MaxInt64} {
			got := mustAnswerStep(t, withCursor(b, cursor), namedChange(chClear, 0), namedChange(chCursor, 0), namedChange(chPhase, phIdle))
			if !sameBase(got, withPhase(withCursor(withBlack(b), 0), phIdle)) {
				t.Fatalf("where no cell is left, the step makes %v of %v", got, b)
			}
		}
	}
	for _, cursor := range []int64{0, 1, 9, math.MaxInt64} {
		got := mustAnswerStep(t, impl.Base{Phase: phSweep, Cursor: cursor}, namedChange(chClear, 0), namedChange(chCursor, 0), namedChange(chPhase, phIdle))
		if !sameBase(got, impl.Base{}) {
			t.Fatalf("of no cells the step makes %v", got)
		}
	}
}

// fullBases have as many cells as there may be: a few of them kept, all of them kept (under wide forks, and one under the other), and none.
func fullBases() []impl.Base {
	leaves, forks := numberedLeaves(maxCells-5), []impl.Node{}
	for i := range 5 {
		kids := []impl.Kid{}
		for at, leaf := range leaves[i*15 : i*15+15] {
			kids = append(kids, kidAt(int64(at), leaf))
		}
		forks = append(forks, forkOf("v", kids...))
	}
	chain := []impl.Node{leafOf("a")}
	for len(chain) < maxCells {
		chain = append(chain, stemOf(nameOfNode(chain[len(chain)-1]), 1))
	}
	wide := impl.Base{Cells: cellsOfNodes(append(leaves, forks...)...), Pins: namesOf(cellsOfNodes(forks...))}
	long := impl.Base{Cells: cellsOfNodes(chain...), Head: nameOfNode(chain[maxCells-1])}
	return []impl.Base{fullBase(), wide, withPins(withHead(wide, wide.Pins[2])), long, withHead(long, nameOfNode(chain[40])), withHead(long, 0), withHead(wide, wide.Pins[0])}
}

// P15: a whole cycle with nothing done meanwhile takes away just what GarbageIn told when it began; the next one takes away nothing.
func TestP15Cycles(t *testing.T) {
	mustCycle(t, impl.NewBase())
	for _, b := range append(startBases(), fullBases()...) {
		mustCycle(t, mustCycle(t, b))
	}
	r := rand.New(rand.NewSource(151))
	taken := 0
	for range 60 {
		first, second := drawnMap(r, 8), drawnMap(r, 8)
		nodes, root := planted(first)
		others, pin := planted(second)
		cells := joined(cellsOfNodes(append(nodes, others...)...), numberedLeaves(r.Intn(8))...)
		for _, b := range []impl.Base{{Cells: cells, Head: root}, {Cells: cells, Head: pin}, {Cells: cells}} {
			if pin != 0 && r.Intn(2) == 0 {
				b.Pins = []int64{pin}
			}
			end := mustCycle(t, b)
			taken += len(b.Cells) - len(end.Cells)
			if b.Head == root && len(b.Pins) == 0 && !sameCells(end.Cells, cellsOfNodes(nodes...)) {
				t.Fatalf("the cycle of %v leaves %v, want just the nodes of %v", b, end.Cells, first)
			}
		}
	}
	if taken < 500 {
		t.Fatalf("%d cells are taken away", taken)
	}
}

// P15: from each Base of each phase there is a step, and an end; of all that one change makes of it likewise, or there is no Base.
func TestP15EachBase(t *testing.T) {
	r := rand.New(rand.NewSource(152))
	right, wrong := map[int64]int{}, map[int64]int{}
	for _, b := range someBases() {
		mustSweep(t, b)
		mustEnd(t, b)
		for _, bent := range bentBases(b) {
			if len(b.Cells) > 20 && r.Intn(100) > 0 || r.Intn(3) > 0 {
				continue
			}
			if !baseByWords(bent) {
				wrong[bent.Phase]++
				mustNotSweep(t, bent)
				continue
			}
			right[bent.Phase]++
			mustSweep(t, bent)
			if r.Intn(10) == 0 {
				mustEnd(t, bent)
			}
		}
	}
	for phase := range int64(3) {
		if right[phase] < 100 || wrong[phase] < 100 {
			t.Fatalf("%v are right by phase, %v are not", right, wrong)
		}
	}
}

// P15: bases that are not right, by hand: there is no step, no garbage and no bound, also where there are cells that nobody needs.
func TestP15BadBases(t *testing.T) {
	bases, n := phasedBases()
	for _, b := range bases {
		for _, bad := range []impl.Base{
			withPhase(b, 3), withPhase(b, -1), withPhase(b, 256), withPhase(b, math.MinInt64), withHead(b, 5), withHead(b, -1), withHead(b, -n.root), withPins(b, 0), withPins(b, 5),
			withPins(b, n.pin, n.pin), withoutCell(b, n.y), withoutCell(b, n.root), withoutCell(b, n.pin), withGrey(b, n.lone, n.lone), withBlack(b, 0), withBlack(b, 5), withCursor(b, -1),
			withBlack(withGrey(b, n.lone), risenNames(n.root, n.lone)...),
		} {
			mustNotSweep(t, bad)
		}
		if b.Phase != phSweep {
			mustNotSweep(t, withCursor(b, 1))
		}
	}
	marked, swept := bases[1], bases[2]
	for _, bad := range []impl.Base{
		withGrey(marked), withGrey(marked, n.pin, n.z), withGrey(marked, n.z, n.a), withBlack(marked), withPhase(marked, phIdle), withPhase(marked, phSweep),
		withBlack(swept), withBlack(swept, less(swept.Black, n.y)...), withGrey(swept, n.lone), withPhase(swept, phIdle), withPhase(swept, phMark),
		withBlack(bases[0], n.lone), withGrey(bases[0], n.lone), {Phase: 3}, {Head: 5}, {Pins: []int64{5}}, {Grey: []int64{5}}, {Black: []int64{5}}, {Cursor: 5},
	} {
		mustNotSweep(t, bad)
	}
	for _, cells := range badCells() {
		mustNotSweep(t, impl.Base{Cells: cells})
	}
	mustNotSweep(t, impl.Base{Cells: cellsOfNodes(numberedLeaves(maxCells + 1)...)})
}

// P15, by hand: what nobody needs, in each phase: what is grey or black but not kept is garbage too, what is reached from garbage alone, and what is reached from itself alone.
func TestP15Garbage(t *testing.T) {
	bases, n := phasedBases()
	lost := stemOf(5, 1)                                              // its Kid is not there
	far := stemOf(n.lone, 2)                                          // from it n.lone is reached
	wide := forkOf("v", kidAt(1, far), impl.Kid{At: 2, Name: n.root}) // and what is kept is reached from this one
	more := []int64{nameOfNode(lost), nameOfNode(far), nameOfNode(wide), nameOfNode(selfNamed()), nameOfNode(selfForked())}
	for _, b := range bases {
		big := withNodes(b, lost, far, wide, selfNamed(), selfForked())
		for _, c := range []struct {
			b    impl.Base
			want []int64
		}{
			{b, []int64{n.lone}}, {withPins(b), risenNames(n.lone, n.pin)}, {withHead(b, 0), risenNames(n.lone, n.root, n.a, n.one, n.y)}, {withHead(b, n.pin), risenNames(n.lone, n.root, n.a, n.one, n.y)},
			{withPins(withHead(b, 0)), namesOf(b.Cells)}, {withoutCell(b, n.lone), nil}, {big, risenNames(append(slices.Clone(more), n.lone)...)}, {withPins(withHead(big, 0)), namesOf(big.Cells)},
		} {
			if got := impl.GarbageIn(c.b); !slices.Equal(got, c.want) {
				t.Fatalf("GarbageIn(%v) = %v, want %v", c.b, got, c.want)
			}
			mustSweep(t, c.b)
			mustEnd(t, c.b)
		}
	}
	for _, b := range []impl.Base{withGrey(bases[1], n.pin, n.z, n.a, n.lone), withBlack(withGrey(bases[1], n.pin, n.z, n.a, n.y), risenNames(n.root, n.lone)...), withBlack(bases[2], namesOf(bases[2].Cells)...)} {
		if got := impl.GarbageIn(b); !slices.Equal(got, []int64{n.lone}) {
			t.Fatalf("GarbageIn(%v) = %v, want %d", b, got, n.lone)
		}
	}
	for _, b := range []impl.Base{{}, {Phase: phMark}, {Phase: phSweep, Cursor: 7}} {
		if got := impl.GarbageIn(b); len(got) != 0 {
			t.Fatalf("GarbageIn(%v) = %v", b, got)
		}
	}
}

// P15: the bound is told by how many cells there are, in each phase, whatever of them is kept.
func TestP15CycleBound(t *testing.T) {
	leaves := numberedLeaves(maxCells)
	for count := range maxCells + 1 {
		cells := cellsOfNodes(leaves[:count]...)
		for _, b := range []impl.Base{{Cells: cells}, {Cells: cells, Phase: phMark}, {Cells: cells, Phase: phSweep, Cursor: 5}} {
			if got := impl.CycleBound(b); got != int64(3*count+3) {
				t.Fatalf("CycleBound of %d cells is %d", count, got)
			}
		}
	}
	if impl.CycleBound(impl.NewBase()) != 3 || impl.CycleBound(fullBase()) != 243 {
		t.Fatalf("the bounds are %d and %d", impl.CycleBound(impl.NewBase()), impl.CycleBound(fullBase()))
	}
}

// deeds are the bases that one commit with some of these edits, one pin, or one that is no pin any more, makes of a right one.
func deeds(t *testing.T, b impl.Base, lists ...[]impl.Edit) []impl.Base {
	t.Helper()
	made := []impl.Base{}
	for _, root := range append(keptByWords(b), 0) {
		for _, list := range lists {
			made = append(made, mustCommit(t, b, root, list...))
		}
		if list, code := impl.PinOf(b, root); code == cmOk {
			made = append(made, mustChange(t, b, list...))
		}
		if list, code := impl.UnpinOf(b, root); code == cmOk {
			made = append(made, mustChange(t, b, list...))
		}
	}
	return made
}

// mustBeGone fails where one of these names is there, though it is not among what was needed.
func mustBeGone(t *testing.T, b impl.Base, names []int64, needed map[int64]bool) {
	t.Helper()
	for _, name := range namesOf(b.Cells) {
		if slices.Contains(names, name) && !needed[name] {
			t.Fatalf("%d is still in %v, though nobody needs it", name, b)
		}
	}
}

// P15: something done between any two steps of a cycle: all that is kept then is there at its end, and what nobody needed when it began, nor then, is gone.
func TestP15DoneMeanwhile(t *testing.T) {
	hand, n := handBase()
	lists := [][]impl.Edit{nil, editsOf("1a", "w", "5", "q"), editsOf("1ab", "", "4", ""), editsOf("2", "", "3", ""), editsOf("9", "y")}
	phases := map[int64]int{}
	for _, start := range []impl.Base{hand, withHead(hand, 0), withNodes(withPins(withHead(hand, n.a), n.lone), leafOf("y", 9), leafOf("q", 5)), withPins(hand, risenNames(n.one, n.a)...)} {
		garbage := impl.GarbageIn(start)
		for _, b := range cycleOf(start) {
			for _, after := range deeds(t, b, lists...) {
				phases[b.Phase]++
				end, _ := mustEnd(t, after)
				mustBeGone(t, end, garbage, neededByWords(after))
			}
			if len(b.Black)%3 == 0 {
				for _, after := range deeds(t, b, lists[1]) {
					mustCycle(t, finished(t, after))
				}
			}
		}
	}
	if phases[phIdle] < 50 || phases[phMark] < 200 || phases[phSweep] < 200 {
		t.Fatalf("by phase so much is done: %v", phases)
	}
}

// P15: a commit with the Cursor below, at and above the names of the new nodes, some of which are there already or not: all of them stay.
func TestP15CommitAtTheCursor(t *testing.T) {
	swept, n := sweptBase()
	sample, q, five := sampleNodes(), leafOf("q"), leafOf("q", 5)
	wide := forkOf("", kidAt(1, sample[3]), kidAt(2, sample[1]), kidAt(3, sample[1]), kidAt(5, q))
	for _, c := range []struct {
		parent int64
		made   []impl.Node
	}{{0, []impl.Node{five}}, {n.root, []impl.Node{q, wide}}} {
		for _, there := range [][]impl.Node{nil, c.made, c.made[:1], c.made[len(c.made)-1:]} {
			for _, node := range c.made {
				for _, cursor := range []int64{0, nameOfNode(node) - 1, nameOfNode(node), nameOfNode(node) + 1, math.MaxInt64} {
					b := withCursor(withNodes(swept, there...), cursor)
					after := mustCommit(t, b, c.parent, editsOf("5", "q")...)
					end, _ := mustEnd(t, after)
					for _, n := range c.made {
						if got, is := impl.NodeAt(end.Cells, nameOfNode(n)); !is || !sameNode(got, n) {
							t.Fatalf("%v is not in %v, the Cursor of which was %d", n, end, cursor)
						}
					}
					mustCycle(t, mustCommit(t, end, 0))
				}
			}
		}
	}
}

// P15: with the last one grey, and with none any more, a commit, a pin and what is no pin any more: what is grey behind it is still found.
func TestP15LastGrey(t *testing.T) {
	hand, n := handBase()
	met := map[int]int{}
	for _, start := range []impl.Base{hand, withPins(hand), withHead(hand, 0), impl.NewBase(), withPins(hand, risenNames(n.a, n.pin, n.lone)...)} {
		for _, b := range cycleOf(start) {
			if b.Phase != phMark || len(b.Grey) > 1 {
				continue
			}
			met[len(b.Grey)]++
			for _, after := range deeds(t, b, someEdits()...) {
				mustEnd(t, after)
				for _, again := range deeds(t, mustSweep(t, after), editsOf("4", "r")) {
					mustEnd(t, again)
				}
			}
		}
	}
	if met[0] < 5 || met[1] < 5 {
		t.Fatalf("one is grey, or none, in %v", met)
	}
}

// editsTo are the edits that make that map of none.
func editsTo(pairs map[string]string) []impl.Edit {
	list := []impl.Edit{}
	for _, p := range listOf(pairs) {
		list = append(list, impl.Edit{Key: p.Key, Value: p.Value})
	}
	return list
}

// P15: a map that nobody needs any more is made again, as it was, between any two steps of a cycle: also where some of its nodes are gone by then, and others are still to be looked at.
func TestP15MadeAgain(t *testing.T) {
	old := map[string]string{"1a": "x", "1ab": "y", "2": "z", "33": "x", "34": "y", "35": "z", "4": "q", "4567": "r"}
	now := map[string]string{"1a": "x", "1ab": "y", "2": "new", "33": "x", "34": "y"}
	oldNodes, oldRoot := planted(old)
	newNodes, newRoot := planted(now)
	start := impl.Base{Cells: cellsOfNodes(append(oldNodes, newNodes...)...), Head: newRoot}
	cut, whole, gone := 0, 0, 0
	for _, b := range cycleOf(start) {
		parents := []int64{0, newRoot}
		for i, list := range [][]impl.Edit{editsTo(old), editsOf("2", "z", "35", "z", "4", "q", "4567", "r")} {
			after := mustCommit(t, b, parents[i], list...)
			if after.Head != oldRoot {
				t.Fatalf("the root is %d, want %d", after.Head, oldRoot)
			}
			left := 0
			for _, n := range cellsOfNodes(oldNodes...) {
				if slices.Contains(namesOf(b.Cells), n.Name) {
					left++
				}
			}
			switch {
			case left == len(cellsOfNodes(oldNodes...)):
				whole++
			case slices.ContainsFunc(garbageByWords(b), func(name int64) bool { return slices.Contains(namesOf(cellsOfNodes(oldNodes...)), name) }):
				cut++
			default:
				gone++
			}
			end, _ := mustEnd(t, after)
			mustHoldMap(t, end.Cells, oldRoot, old, []string{"1", "3", "45", "5"})
			if end = mustCycle(t, end); !sameCells(end.Cells, cellsOfNodes(oldNodes...)) {
				t.Fatalf("%v is left, want just the nodes of %v", end.Cells, old)
			}
			back := mustCommit(t, after, oldRoot, editsOf("2", "new", "35", "", "4", "", "4567", "")...)
			end, _ = mustEnd(t, back)
			mustHoldMap(t, end.Cells, newRoot, now, []string{"1", "3", "35", "4"})
			mustCycle(t, end)
		}
	}
	if whole < 4 || cut < 4 || gone < 2 {
		t.Fatalf("of the old nodes all are there in %d, some are garbage and some are gone in %d, all that nobody needs are gone in %d", whole, cut, gone)
	}
}

// P15: two maps in turn, one behind each step, or behind each few: the one that was made last is there, and so is what a Pin keeps.
func TestP15InTurn(t *testing.T) {
	first := map[string]string{"1a": "x", "1ab": "y", "2": "z", "33": "x"}
	second := map[string]string{"1a": "x", "2": "w", "33": "x", "9": "q"}
	third := map[string]string{"33": "x", "34": "y"}
	nodes, pin := planted(third)
	for every := 1; every < 8; every++ {
		b := impl.Base{Cells: cellsOfNodes(nodes...), Pins: []int64{pin}}
		cycles := 0
		for i := range 120 {
			pairs := []map[string]string{first, second}[i/every%2]
			if i%every == 0 {
				b = mustCommit(t, b, 0, editsTo(pairs)...)
			}
			b = mustSweep(t, b)
			if b.Phase == phIdle {
				cycles++
			}
			_, root := planted(pairs)
			if b.Head != root {
				t.Fatalf("the Head is %d, want %d", b.Head, root)
			}
			mustHoldMap(t, b.Cells, root, pairs, []string{"1", "3", "4"})
			mustHoldMap(t, b.Cells, pin, third, []string{"3", "35"})
		}
		if cycles < 2 {
			t.Fatalf("%d cycles", cycles)
		}
	}
}

// P15: draws of commits, pins and steps over many cycles: each root that is kept has the map that it had when it was first kept, and behind a cycle there is nothing that was not needed when it began, or since.
func TestP15Draws(t *testing.T) {
	r := rand.New(rand.NewSource(153))
	cycles, taken, done := 0, 0, map[string]int{}
	for range 25 {
		starts := append(startBases(), fullBases()[1:3]...)
		b := starts[r.Intn(len(starts))]
		had := map[int64][]impl.Pair{}
		needed := map[int64]bool{}
		began := false
		for range 150 {
			before, what := b, "sweep"
			root := drawnRoot(r, b)
			switch r.Intn(8) {
			case 0:
				what = "commit"
				b, _ = mustTryCommit(t, b, root, drawnEdits(r, b, root)...)
			case 1:
				what = "pin"
				if list, code := impl.PinOf(b, root); code == cmOk {
					b = mustChange(t, b, list...)
				} else if list, code := impl.UnpinOf(b, root); code == cmOk {
					b, what = mustChange(t, b, list...), "unpin"
				}
			default:
				if b.Phase == phIdle {
					needed, began = map[int64]bool{}, true
				}
				b = mustSweep(t, b)
				mustStillKeep(t, before, b)
			}
			if !sameBase(before, b) {
				done[fmt.Sprint(what, " ", before.Phase)]++
			}
			maps.Copy(needed, neededByWords(b))
			if what == "sweep" && b.Phase == phIdle && began {
				mustBeGone(t, b, namesOf(b.Cells), needed)
				cycles++
			}
			taken += max(0, len(before.Cells)-len(b.Cells))
			for _, root := range keptByWords(b) {
				pairs, is := impl.PairsOf(b.Cells, root)
				if want, was := had[root]; was && !slices.Equal(pairs, want) {
					t.Fatalf("of %d there is %v, %v, want %v", root, pairs, is, want)
				}
				had[root] = pairs
			}
		}
		end, _ := mustEnd(t, b)
		mustCycle(t, end)
	}
	for _, what := range []string{"commit", "pin", "unpin"} {
		for phase := range 3 {
			if done[fmt.Sprint(what, " ", phase)] < 2 {
				t.Fatalf("so much is done: %v", done)
			}
		}
	}
	if cycles < 30 || taken < 300 {
		t.Fatalf("%d cycles take away %d cells, with %v", cycles, taken, done)
	}
}

// P19: whatever the Base is, there is an answer, and it is what the document's words tell.
func TestP19SweepsAnswerAlways(t *testing.T) {
	r := rand.New(rand.NewSource(154))
	pools := append(slices.Repeat(someCells(), 6), badCells()...)
	right, wrong := 0, 0
	for range 3000 {
		b := strangeBase(r, pools)
		if !baseByWords(b) {
			wrong++
			mustNotSweep(t, b)
			continue
		}
		right++
		mustSweep(t, b)
	}
	if right < 300 || wrong < 1200 {
		t.Fatalf("%d are right, %d are not", right, wrong)
	}
	hand, n := handBase()
	for phase := range int64(3) {
		b := withPhase(hand, phase)
		for _, list := range [][]int64{upTo(1 << 18), make([]int64, 1<<18), slices.Repeat([]int64{n.lone}, 1<<18)} {
			mustNotSweep(t, withPins(b, list...))
			mustNotSweep(t, withGrey(b, list...))
			mustNotSweep(t, withBlack(b, list...))
		}
	}
	mustNotSweep(t, impl.Base{Cells: make([]impl.Cell, 1<<20)})
}

// sweepAnswers is what each function of the chapter answers, in a text; nothing and nil are the same there.
func sweepAnswers(b impl.Base) string {
	list, code := impl.SweepOf(b)
	return fmt.Sprintln(list, code, impl.GarbageIn(b), impl.CycleBound(b))
}

// sweepArgs are bases, right ones and others.
func sweepArgs() []impl.Base {
	r := rand.New(rand.NewSource(155))
	list := append(someBases(), fullBases()...)
	pools := append(someCells(), badCells()...)
	for range 60 {
		list = append(list, strangeBase(r, pools))
	}
	for _, b := range someBases() {
		bent := bentBases(b)
		list = append(list, bent[r.Intn(len(bent))])
	}
	return list
}

// P19: a Base stays, and so does the spare room behind each of its lists; no answer depends on that room.
func TestP19SweepsLeaveTheirArguments(t *testing.T) {
	for _, b := range sweepArgs() {
		want := sweepAnswers(cloneBase(b))
		mustLeaveBase(t, b, func(arg impl.Base) {
			if got := sweepAnswers(arg); got != want {
				t.Fatalf("of %v with spare room: %s, without: %s", b, got, want)
			}
		})
	}
}

// P19: what is answered is new memory: it shares none with the Base or with another answer, spare room included, nor do the Bytes of two changes.
func TestP19SweepsAreNewMemory(t *testing.T) {
	for _, b := range sweepArgs() {
		mustLeaveBase(t, b, func(arg impl.Base) {
			changeLists.mustBeNew(t, func() []impl.Change { list, _ := impl.SweepOf(arg); return list })
			mustBeNew(t, func() []int64 { return impl.GarbageIn(arg) })
			mustBeApart(t, impl.GarbageIn(arg), impl.GarbageIn(arg))
		})
		arg := cloneBase(b)
		list, _ := impl.SweepOf(arg)
		garbage := impl.GarbageIn(arg)
		wantList, want := changeLists.clone(list), slices.Clone(garbage)
		for i := range list {
			_ = append(list[i].Bytes, spareBytes...)
		}
		spoilBase(arg)
		if !changeLists.alike(list, wantList) || !slices.Equal(garbage, want) {
			t.Fatalf("%v, %v are %v, %v once the Base is written into", wantList, want, list, garbage)
		}
	}
}

// P19: what is told of a sweep depends on no other call.
func TestP19SweepsOfOtherTimes(t *testing.T) {
	bases := sweepArgs()
	for i, b := range bases {
		want := sweepAnswers(b)
		sweepAnswers(bases[(i+1)%len(bases)])
		sweepAnswers(withPhase(b, 3))
		for range 3 {
			if got := sweepAnswers(b); got != want {
				t.Fatalf("of %v it is %s behind other calls, want %s", b, got, want)
			}
		}
	}
}
