package tests

import (
	"fmt"
	"maps"
	"math"
	"math/rand"
	"slices"
	"strings"
	"testing"

	"loop.example/g00754/impl"
)

const maxPairs = 26

// listOf is the pairs of a map, by key.
func listOf(pairs map[string]string) []impl.Pair {
	list := []impl.Pair{}
	for _, key := range slices.Sorted(maps.Keys(pairs)) {
		list = append(list, impl.Pair{Key: key, Value: pairs[key]})
	}
	return list
}

// numberedPairs is a map of keys of two digits, no two values of which are alike.
func numberedPairs(count int) map[string]string {
	pairs := map[string]string{}
	for i := range count {
		pairs[hexDigits[i/16:i/16+1]+hexDigits[i%16:i%16+1]] = fmt.Sprint("v", i)
	}
	return pairs
}

// mustGather asks for just these pairs, by key, and true.
func mustGather(t *testing.T, cells []impl.Cell, root int64, pairs map[string]string) {
	t.Helper()
	if list, is := impl.PairsOf(cells, root); !is || !slices.Equal(list, listOf(pairs)) {
		t.Fatalf("PairsOf(%v, %d) = %v, %v, want %v, true", cells, root, list, is, listOf(pairs))
	}
}

// mustNotGather asks for nothing and false.
func mustNotGather(t *testing.T, cells []impl.Cell, root int64) {
	t.Helper()
	if list, is := impl.PairsOf(cells, root); is || len(list) != 0 {
		t.Fatalf("PairsOf(%v, %d) = %v, %v, want nothing, false", cells, root, list, is)
	}
}

// mustBuild asks for the tree of this map, just its nodes, and for the map of that tree; its root is answered.
func mustBuild(t *testing.T, pairs map[string]string) ([]impl.Cell, int64) {
	t.Helper()
	list := listOf(pairs)
	nodes, root := planted(pairs)
	cells, top := impl.TreeOf(list)
	if !impl.MapOk(list) || top != root || !sameCells(cells, cellsOfNodes(nodes...)) {
		t.Fatalf("MapOk(%v) = %v, TreeOf = %v, %d, want true, %v, %d", list, impl.MapOk(list), cells, top, cellsOfNodes(nodes...), root)
	}
	mustReach(t, cells, []int64{root}, namesOf(cells), true)
	mustGather(t, cells, root, pairs)
	back, _ := impl.PairsOf(cells, root)
	if again, top := impl.TreeOf(back); top != root || !sameCells(again, cells) {
		t.Fatalf("TreeOf(PairsOf) = %v, %d, want %v, %d", again, top, cells, root)
	}
	return cells, root
}

func namesOf(cells []impl.Cell) []int64 {
	names := []int64{}
	for _, c := range cells {
		names = append(names, c.Name)
	}
	return names
}

// mustBeNoMap asks for false, nothing and 0.
func mustBeNoMap(t *testing.T, list []impl.Pair) {
	t.Helper()
	cells, root := impl.TreeOf(list)
	if impl.MapOk(list) || len(cells) != 0 || root != 0 {
		t.Fatalf("MapOk(%v) = %v, TreeOf = %v, %d, want false, nothing, 0", list, impl.MapOk(list), cells, root)
	}
}

// reachedCells are those of the cells that are of the tree.
func reachedCells(t *testing.T, cells []impl.Cell, root int64) []impl.Cell {
	t.Helper()
	names, whole := impl.ReachOf(cells, []int64{root})
	if !whole {
		t.Fatalf("the tree %d is not whole in %v", root, cells)
	}
	return slices.DeleteFunc(cloneCells(cells), func(c impl.Cell) bool { return !slices.Contains(names, c.Name) })
}

// mustBeTreeOf asks that this tree, among whatever cells, is the one that TreeOf makes of the map.
func mustBeTreeOf(t *testing.T, cells []impl.Cell, root int64, pairs map[string]string) {
	t.Helper()
	want, top := impl.TreeOf(listOf(pairs))
	if got := reachedCells(t, cells, root); root != top || !sameCells(got, want) {
		t.Fatalf("of %v the root is %d and the nodes are %v, want %d, %v", pairs, root, got, top, want)
	}
	mustGather(t, cells, root, pairs)
}

func stepped(cells []impl.Cell, root int64, key, value string) ([]impl.Cell, int64, int64) {
	if value == "" {
		return impl.DropIn(cells, root, key)
	}
	return impl.PutIn(cells, root, key, value)
}

// mapStep puts the value at the key, or drops the key where the value is empty. Where there is no room the cells that are not of the tree go first.
func mapStep(t *testing.T, cells []impl.Cell, root int64, key, value string) ([]impl.Cell, int64) {
	t.Helper()
	for {
		after, top, code := stepped(cells, root, key, value)
		less := reachedCells(t, cells, root)
		switch {
		case code == fdThere || code == fdNone:
			return after, top
		case code != fdFull || len(less) == len(cells):
			t.Fatalf("%q, %q has the code %d with %d cells", key, value, code, len(cells))
		}
		cells = less
	}
}

// pairsByWords is the document's words, over the digits of the keys, for nodes that are not reached from themselves: there each way down soon ends with a value.
func pairsByWords(there map[int64]impl.Node, root int64) (map[string]string, bool) {
	pairs := map[string]string{}
	var walk func(name int64, key string) bool
	walk = func(name int64, key string) bool {
		n, is := there[name]
		key += digitsOf(n.Path)
		if n.Value != "" {
			is = is && key != "" && len(key) <= 8 && len(pairs) < maxPairs
			pairs[key] = n.Value
		}
		for _, kid := range n.Kids {
			step := ""
			if n.Kind == 3 {
				step = digitsOf([]int64{kid.At})
			}
			is = is && walk(kid.Name, key+step)
		}
		return is
	}
	return pairs, root == 0 || walk(root, "")
}

// mustGatherByWords asks for what the document's words tell, whatever it is; it is answered.
func mustGatherByWords(t *testing.T, cells []impl.Cell, root int64) bool {
	t.Helper()
	pairs, is := pairsByWords(thereIn(cells), root)
	if !is {
		mustNotGather(t, cells, root)
		return false
	}
	mustGather(t, cells, root, pairs)
	return true
}

func TestP8Constants(t *testing.T) {
	var most byte = impl.MaxPairs // it has no type of its own
	if most != maxPairs {
		t.Fatalf("MaxPairs = %d, want %d", most, maxPairs)
	}
}

// P8, by hand: the tree of sampleNodes.
func TestP8ByHand(t *testing.T) {
	nodes := sampleNodes()
	list := []impl.Pair{{Key: "1a", Value: "x"}, {Key: "1ab", Value: "y"}, {Key: "2", Value: "z"}, {Key: "3", Value: "z"}}
	cells, root := impl.TreeOf(list)
	if root != nameOfNode(nodes[4]) || !sameCells(cells, cellsOfNodes(nodes...)) {
		t.Fatalf("TreeOf(%v) = %v, %d", list, cells, root)
	}
	if got, is := impl.PairsOf(cellsOfNodes(nodes...), root); !is || !slices.Equal(got, list) {
		t.Fatalf("PairsOf = %v, %v", got, is)
	}
	for i, want := range []map[string]string{nil, nil, nil, {"a": "x", "ab": "y"}} { // below its root: at the first three a value stands at no number
		if want == nil {
			mustNotGather(t, cells, nameOfNode(nodes[i]))
		} else {
			mustGather(t, cells, nameOfNode(nodes[i]), want)
		}
	}
}

// P8: of each map of these keys the tree is right, and no two have one root.
func TestP8EachMap(t *testing.T) {
	keys := append(keysOver("05", 2), "055", "0505", "5050")
	seen := map[int64]int{}
	for mask := range 1 << len(keys) {
		pairs := map[string]string{}
		for i, key := range keys {
			if mask>>i&1 == 1 {
				pairs[key] = "same"
			}
		}
		_, root := mustBuild(t, pairs)
		if other, is := seen[root]; is {
			t.Fatalf("the maps %b and %b have the root %d", other, mask, root)
		}
		seen[root] = mask
	}
}

// P8: ordinary maps, put into 0 in each order: it is the tree that TreeOf makes.
func TestP8EachOrder(t *testing.T) {
	for _, pairs := range someMaps() {
		mustBuild(t, pairs)
		for _, order := range orders(slices.Sorted(maps.Keys(pairs))) {
			cells, root := []impl.Cell{}, int64(0)
			for _, key := range order {
				cells, root = mapStep(t, cells, root, key, pairs[key])
			}
			mustBeTreeOf(t, cells, root, pairs)
		}
	}
}

// P8: a pair that is put and dropped again, and one that is put twice, with another value ahead: at each place of the map.
func TestP8DroppedAndPutTwice(t *testing.T) {
	for _, pairs := range someMaps() {
		keys := slices.Sorted(maps.Keys(pairs))
		for i, key := range keys {
			for _, other := range []string{key, "1b", "4", "12345", "00000", "abcdefff"} {
				cells, root := []impl.Cell{}, int64(0)
				for k, now := range keys {
					if k == i {
						cells, root = mapStep(t, cells, root, other, "other")
					}
					cells, root = mapStep(t, cells, root, now, pairs[now])
				}
				if pairs[other] == "" {
					cells, root = mapStep(t, cells, root, other, "")
				}
				mustBeTreeOf(t, cells, root, pairs)
			}
		}
	}
}

// P8: drawn maps that came to be in drawn ways: some of their keys and some others are put and dropped, with drawn values; then all others are dropped and all pairs are put.
func TestP8DrawnWays(t *testing.T) {
	r := rand.New(rand.NewSource(81))
	for range 150 {
		pairs := drawnMap(r, 14)
		keys := slices.Sorted(maps.Keys(pairs))
		for range 4 {
			keys = append(keys, drawnKeyAmong(r, 16))
		}
		cells, root := []impl.Cell{}, int64(0)
		for range r.Intn(40) {
			key, value := keys[r.Intn(len(keys))], ""
			if r.Intn(3) > 0 {
				value = drawnKeyAmong(r, 3)
			}
			cells, root = mapStep(t, cells, root, key, value)
		}
		r.Shuffle(len(keys), func(i, k int) { keys[i], keys[k] = keys[k], keys[i] })
		for _, key := range keys {
			cells, root = mapStep(t, cells, root, key, pairs[key])
		}
		mustBeTreeOf(t, cells, root, pairs)
	}
}

// P8: drawn maps; two that differ in one key or in one value have two roots.
func TestP8OneOther(t *testing.T) {
	r := rand.New(rand.NewSource(82))
	for range 100 {
		pairs := drawnMap(r, maxPairs)
		_, root := mustBuild(t, pairs)
		differ := func(other map[string]string) {
			t.Helper()
			if _, top := impl.TreeOf(listOf(other)); top == root || len(other) > 0 && top == 0 {
				t.Fatalf("%v has the root %d, and so has %v", pairs, root, other)
			}
		}
		for key, value := range pairs {
			valued, less, moved := maps.Clone(pairs), maps.Clone(pairs), maps.Clone(pairs)
			valued[key] = value[:len(value)-1] + "z" // a drawn value ends with a digit of its key
			differ(valued)
			delete(less, key)
			differ(less)
			delete(moved, key)
			for _, other := range keysNear(key) {
				if pairs[other] == "" {
					moved[other] = value
					differ(moved)
					delete(moved, other)
				}
			}
		}
	}
}

// P8: no pair, one, and pairs that are not a map: Keys that fall or are alike, or are not KeyOk, Values that are not ValueOk, at each place.
func TestP8MapOk(t *testing.T) {
	for _, list := range [][]impl.Pair{nil, {}} {
		if cells, root := impl.TreeOf(list); !impl.MapOk(list) || len(cells) != 0 || root != 0 {
			t.Fatalf("TreeOf(none) = %v, %d", cells, root)
		}
	}
	for _, pairs := range append(someMaps(), map[string]string{"7": "v"}, numberedPairs(25)) {
		list := listOf(pairs)
		mustBuild(t, pairs)
		for i := range list {
			bent := func(key, value string) []impl.Pair {
				other := slices.Clone(list)
				other[i] = impl.Pair{Key: key, Value: value}
				return other
			}
			for _, key := range badKeys() {
				mustBeNoMap(t, bent(key, list[i].Value))
			}
			for _, value := range badValues() {
				mustBeNoMap(t, bent(list[i].Key, value))
			}
			mustBeNoMap(t, bent("", ""))
			mustBeNoMap(t, slices.Insert(slices.Clone(list), i, list[i]))
			mustBeNoMap(t, slices.Insert(slices.Clone(list), i, impl.Pair{Key: list[i].Key, Value: "other"}))
			if i > 0 {
				mustBeNoMap(t, bent(list[i-1].Key, list[i].Value))
				swapped := bent(list[i-1].Key, list[i-1].Value)
				swapped[i-1] = list[i]
				mustBeNoMap(t, swapped)
			}
		}
	}
}

// P8: Keys rise byte by byte, where letters are behind digits, and one that begins another is ahead of it.
func TestP8KeysRise(t *testing.T) {
	rising := []string{"0", "00", "000", "00000000", "01", "09", "0a", "0f", "1", "10", "9", "99999999", "a", "a0", "ab", "b", "f", "ffffffff"}
	for i, a := range rising {
		for k, b := range rising {
			list := []impl.Pair{{Key: a, Value: "v"}, {Key: b, Value: "v"}}
			if i < k {
				mustBuild(t, map[string]string{a: "v", b: "v"})
			} else {
				mustBeNoMap(t, list)
			}
		}
	}
}

// P8: one pair is a leaf, with keys and values of each size.
func TestP8OnePair(t *testing.T) {
	for keySize := range 8 {
		for valueSize := range 12 {
			key, value := "1f0a9e28"[:keySize+1], "abcdefghij09"[:valueSize+1]
			cells, root := mustBuild(t, map[string]string{key: value})
			if n := leafOf(value, worths(key)...); root != nameOfNode(n) || len(cells) != 1 {
				t.Fatalf("of %q=%q the tree is %v, %d", key, value, cells, root)
			}
		}
	}
}

// P8: keys of which one begins another: each alone, and all of them; where they begin alike there is a stem.
func TestP8KeysThatBeginOthers(t *testing.T) {
	for _, long := range []string{"12345678", "00000000", "ffffffff"} {
		all := map[string]string{}
		for size := 1; size <= 8; size++ {
			all[long[:size]] = fmt.Sprint("v", size)
			mustBuild(t, all)
			for more := size + 1; more <= 8; more++ {
				short := map[string]string{long[:size]: "a", long[:more]: "b"}
				cells, root := mustBuild(t, short)
				n, _ := impl.NodeAt(cells, root)
				if len(cells) != 3 || n.Kind != 2 || digitsOf(n.Path) != long[:size] {
					t.Fatalf("of %v the tree is %v", short, cells)
				}
			}
		}
		if cells, _ := mustBuild(t, all); len(cells) != 9 { // a stem, seven forks, and a leaf of the longest one
			t.Fatalf("the tree of %v has %d nodes", all, len(cells))
		}
	}
}

// longestPairs is a map of MaxPairs keys of MaxKey digits whose tree has as many nodes as can be: two Kids at each fork, and stems where the keys are long enough for them. That no other shape has more was counted over all of them.
func longestPairs() map[string]string {
	keys := []string{"00500000", "00510000"}
	for _, begin := range []string{"01", "10", "11"} {
		for i := range 8 {
			keys = append(keys, fmt.Sprintf("%s5%d5%d5%d", begin, i>>2, i>>1&1, i&1))
		}
	}
	pairs := map[string]string{}
	for i, key := range keys {
		pairs[key] = fmt.Sprint("abcdefghij", i)
	}
	return pairs
}

// P8: MaxPairs met exactly, and passed by one; with as many nodes as can be, and as few.
func TestP8MaxPairs(t *testing.T) {
	cells, root := mustBuild(t, longestPairs())
	if len(cells) != 73 {
		t.Fatalf("the tree has %d nodes", len(cells))
	}
	top := int64(0)
	for _, pair := range listOf(longestPairs()) { // on the way there are more cells than can be, so those that are not needed go
		cells, top = mapStep(t, reachedCells(t, cells, top), top, pair.Key, pair.Value)
	}
	mustBeTreeOf(t, cells, top, longestPairs())
	if top != root {
		t.Fatalf("the root is %d, want %d", top, root)
	}
	few := map[string]string{}
	for key := range numberedPairs(maxPairs) {
		few[key] = "v"
	}
	if cells, _ := mustBuild(t, few); len(cells) != 4 {
		t.Fatalf("the tree of %v has %d nodes", few, len(cells))
	}
	for _, pairs := range []map[string]string{numberedPairs(maxPairs), longestPairs(), few} {
		cells, root := mustBuild(t, pairs)
		for _, key := range []string{"0", "1f", "ffffffff", "01505152"} {
			more := maps.Clone(pairs)
			more[key] = "more"
			mustBeNoMap(t, listOf(more))
			nodes, top := planted(more)
			mustNotGather(t, cellsOfNodes(nodes...), top)
			if both := joined(cells, nodes...); len(both) <= maxCells {
				mustGather(t, both, root, pairs)
				mustNotGather(t, both, top)
			}
		}
	}
	for _, count := range []int{27, 28, 80, 200} {
		mustBeNoMap(t, listOf(numberedPairs(count)))
	}
}

// P8: the pairs of a tree, where the cells hold more pairs than it, and more than MaxPairs: other trees, and nodes of no tree.
func TestP8OtherCells(t *testing.T) {
	nodes, root := planted(map[string]string{"1a": "x", "1ab": "y", "2": "z"})
	others, top := planted(numberedPairs(30))
	cells := joined(cellsOfNodes(append(nodes, others...)...), selfNamed(), selfForked(), leafOf("x"), stemOf(5, 1), forkOf("lost", impl.Kid{At: 1, Name: 7}))
	mustGather(t, cells, root, map[string]string{"1a": "x", "1ab": "y", "2": "z"})
	mustNotGather(t, cells, top)
	for key, value := range numberedPairs(20) {
		after, next := mapStep(t, cells, root, key, value)
		mustGather(t, after, next, map[string]string{"1a": "x", "1ab": "y", "2": "z", key: value})
	}
	full := cellsOfNodes(append(numberedLeaves(maxCells-len(nodes)), nodes...)...)
	mustGather(t, full, root, map[string]string{"1a": "x", "1ab": "y", "2": "z"})
	mustGather(t, full, nameOfNode(numberedLeaf(10)), map[string]string{"00a": "v"})
}

// P8: the empty tree has no pairs, whatever the cells are; a root below 0 is none, also where it is a name but for its sign.
func TestP8RootZeroAndBelow(t *testing.T) {
	for _, cells := range someCells() {
		mustGather(t, cells, 0, nil)
		for _, root := range append([]int64{-1, -2, math.MinInt64, math.MinInt64 + 1, math.MinInt32}, namesOf(cells)...) {
			mustNotGather(t, cells, min(root, -root))
			mustNotGather(t, cells, root|math.MinInt64)
		}
		for _, root := range []int64{1, 5, math.MaxInt64, nameOfNode(leafOf("nowhere", 9))} {
			mustNotGather(t, cells, root)
		}
	}
}

// P8: a node that is not there, each one of the tree, also where the pairs ahead of it, or behind it, are too many already, or where one stands at no path of a key.
func TestP8OneNodeGone(t *testing.T) {
	trees := []map[string]string{longestPairs(), numberedPairs(maxPairs), numberedPairs(27), numberedPairs(32)}
	for _, pairs := range append(someMaps(), trees...) {
		nodes, root := planted(pairs)
		cells := cellsOfNodes(nodes...)
		for _, c := range cells {
			less, _ := impl.Without(cells, c.Name)
			mustNotGather(t, less, root)
			mustGather(t, less, 0, nil)
			mustGatherByWords(t, less, cells[0].Name)
			mustGatherByWords(t, less, cells[len(cells)-1].Name)
		}
	}
	far := forkOf("top", kidAt(1, leafOf("x")), impl.Kid{At: 2, Name: 5})
	mustNotGather(t, cellsOfNodes(far, leafOf("x")), nameOfNode(far))
	far.Value = ""
	mustNotGather(t, cellsOfNodes(far, leafOf("x")), nameOfNode(far))
	far.Kids[1] = kidAt(2, leafOf("x"))
	mustGather(t, cellsOfNodes(far, leafOf("x")), nameOfNode(far), map[string]string{"1": "x", "2": "x"})
}

// P8: a stem to a node that is not there, where no value is.
func TestP8LostBelowStems(t *testing.T) {
	for size := int64(1); size <= 8; size++ {
		s := stemOf(5, upTo(size)...)
		deep := stemOf(nameOfNode(s), 1, 2, 3)
		mustNotGather(t, cellsOfNodes(s), nameOfNode(s))
		mustNotGather(t, cellsOfNodes(s, deep), nameOfNode(deep))
		mustNotGather(t, cellsOfNodes(deep), nameOfNode(deep))
	}
}

// P8: cells that are not CellsOk, also where the bad one is not of the tree, and where the tree is the empty one.
func TestP8BadCells(t *testing.T) {
	for _, cells := range badCells() {
		for _, root := range append(namesOf(cells), 0, 5, -1, nameOfNode(sampleNodes()[4]), math.MaxInt64, math.MinInt64) {
			mustNotGather(t, cells, root)
		}
	}
}

// P8: a value at a path of no number: a leaf as root, and a fork as root; behind one number it is at a key.
func TestP8NoKey(t *testing.T) {
	l := leafOf("v")
	f, g := forkOf("v", kidAt(3, l)), forkOf("", kidAt(3, l), kidAt(4, l))
	mustNotGather(t, cellsOfNodes(l), nameOfNode(l))
	mustNotGather(t, cellsOfNodes(l, f), nameOfNode(f))
	mustGather(t, cellsOfNodes(l, g), nameOfNode(g), map[string]string{"3": "v", "4": "v"})
	mustGather(t, cellsOfNodes(leafOf("v", 0)), nameOfNode(leafOf("v", 0)), map[string]string{"0": "v"})
	for _, n := range []impl.Node{l, f, g} {
		s := stemOf(nameOfNode(n), 0)
		want := map[string]string{"0": n.Value}
		for _, kid := range n.Kids {
			want["0"+digitsOf([]int64{kid.At})] = "v"
		}
		if n.Value == "" {
			delete(want, "0")
		}
		mustGather(t, cellsOfNodes(l, n, s), nameOfNode(s), want)
	}
}

// P8: a value at a path of each size, up to just MaxKey, and past it: of a leaf, of a fork, and of a Kid of a fork.
func TestP8PathSizes(t *testing.T) {
	z := leafOf("z")
	for size := range int64(9) {
		for ahead := range int64(9) {
			begin := digitsOf(upTo(ahead))
			for _, n := range []impl.Node{leafOf("v", upTo(size)...), stemOf(nameOfNode(z), upTo(size + 1)[:min(size+1, 8)]...), forkOf("v", kidAt(2, z)), forkOf("", kidAt(2, z), kidAt(15, z))} {
				cells, root := cellsOfNodes(z, n), nameOfNode(n)
				if ahead > 0 {
					cells, root = cellsOfNodes(z, n, stemOf(root, upTo(ahead)...)), nameOfNode(stemOf(root, upTo(ahead)...))
				}
				want := map[string]string{}
				if n.Value != "" {
					want[begin+digitsOf(n.Path)] = n.Value
				}
				for _, kid := range n.Kids {
					if n.Kind == 3 {
						want[begin+digitsOf([]int64{kid.At})] = "z"
					} else {
						want[begin+digitsOf(n.Path)] = "z"
					}
				}
				if slices.ContainsFunc(slices.Collect(maps.Keys(want)), func(key string) bool { return len(key) < 1 || len(key) > 8 }) {
					mustNotGather(t, cells, root)
				} else {
					mustGather(t, cells, root, want)
				}
			}
		}
	}
}

// P8: a value past MaxKey below each of the Kids of a fork, while the others are right; and the same fork behind less.
func TestP8OneTooFar(t *testing.T) {
	near, far := leafOf("near"), leafOf("far", 7)
	for at := range int64(16) {
		f := forkOf("here")
		want := map[string]string{"4": "here"}
		for k := range int64(16) {
			kid, key := near, "4"+digitsOf([]int64{k})
			want[key] = "near"
			if k == at {
				kid = far
				delete(want, key)
				want[key+"7"] = "far"
			}
			f.Kids = append(f.Kids, kidAt(k, kid))
		}
		seven, one := stemOf(nameOfNode(f), 4, 4, 4, 4, 4, 4, 4), stemOf(nameOfNode(f), 4)
		cells := cellsOfNodes(near, far, f, seven, one)
		mustNotGather(t, cells, nameOfNode(seven))
		mustGather(t, cells, nameOfNode(one), want)
		mustNotGather(t, cells, nameOfNode(f))
	}
}

// P8: trees that are made by hand and are that of no map, with stems to stems and to a leaf, still have their pairs.
func TestP8OtherTrees(t *testing.T) {
	l := leafOf("v", 3)
	first := stemOf(nameOfNode(l), 2)
	second := stemOf(nameOfNode(first), 1)
	f := forkOf("w", kidAt(0, second))
	top := stemOf(nameOfNode(f), 15, 0)
	cells := cellsOfNodes(l, first, second, f, top)
	mustGather(t, cells, nameOfNode(first), map[string]string{"23": "v"})
	mustGather(t, cells, nameOfNode(second), map[string]string{"123": "v"})
	mustGather(t, cells, nameOfNode(top), map[string]string{"f0": "w", "f00123": "v"})
	_, root := mustBuild(t, map[string]string{"f0": "w", "f00123": "v"})
	if root == nameOfNode(top) {
		t.Fatal("one map has two trees")
	}
}

// P8: one node that is reached by two ways, and by as many as there may be pairs, and by one more.
func TestP8ReachedTwice(t *testing.T) {
	low := forkOf("m", kidAt(5, leafOf("l", 6)))
	for count := int64(2); count <= 16; count++ {
		f, want := forkOf(""), map[string]string{}
		for at := range count {
			f.Kids = append(f.Kids, kidAt(at, low))
			key := digitsOf([]int64{at})
			want[key], want[key+"56"] = "m", "l"
		}
		cells := cellsOfNodes(leafOf("l", 6), low, f)
		if len(want) <= maxPairs {
			mustGather(t, cells, nameOfNode(f), want)
		} else {
			mustNotGather(t, cells, nameOfNode(f))
		}
		for ahead := int64(1); ahead <= 8; ahead++ {
			s := stemOf(nameOfNode(f), upTo(ahead)...)
			if is := mustGatherByWords(t, joined(cells, s), nameOfNode(s)); is != (len(want) <= maxPairs && ahead <= 5) {
				t.Fatalf("behind %d numbers it is %v", ahead, is)
			}
		}
	}
}

// manyWays are more ways than can be gone: a leaf, and forks of which all Kids are one, each the Kid of the next.
func manyWays() []impl.Node {
	n := leafOf("v")
	nodes := []impl.Node{n}
	for range maxCells - 1 {
		f := forkOf("")
		for at := range int64(16) {
			f.Kids = append(f.Kids, kidAt(at, n))
		}
		nodes, n = append(nodes, f), f
	}
	return nodes
}

// P8: more ways than can be gone, up to a leaf at a key and past it.
func TestP8ManyWays(t *testing.T) {
	nodes := manyWays()
	cells := cellsOfNodes(nodes...)
	for i, n := range nodes {
		if i == 1 {
			want := map[string]string{}
			for _, digit := range hexDigits {
				want[string(digit)] = "v"
			}
			mustGather(t, cells, nameOfNode(n), want)
			continue
		}
		mustNotGather(t, cells, nameOfNode(n))
	}
}

// selfForkedWidely is a fork with no value of which all 15 Kids are itself; like selfNamed it was searched for.
func selfForkedWidely() impl.Node {
	f := forkOf("")
	for _, at := range []int64{0, 2, 3, 4, 5, 6, 7, 8, 9, 10, 11, 12, 13, 14, 15} {
		f.Kids = append(f.Kids, impl.Kid{At: at, Name: 802994731301842235})
	}
	return f
}

// selfForkedAhead is a fork with no value of which all Kids are itself, but for the last one: that is the leaf of v.
func selfForkedAhead() impl.Node {
	f := forkOf("")
	for _, at := range []int64{0, 1, 2, 4, 5, 6, 7, 8, 9, 10, 11, 12, 13, 14} {
		f.Kids = append(f.Kids, impl.Kid{At: at, Name: 2095016085243174510})
	}
	f.Kids = append(f.Kids, kidAt(15, leafOf("v")))
	return f
}

// P8: nodes that are reached from themselves. Where no value is reached there are no pairs, and none that stands at no path of a key; else there is always one that does.
func TestP8ReachedFromItself(t *testing.T) {
	s, w, f, a, l := selfNamed(), selfForkedWidely(), selfForked(), selfForkedAhead(), leafOf("v")
	if nameOfNode(w) != w.Kids[0].Name || nameOfNode(a) != a.Kids[0].Name {
		t.Fatal("these are not their own Kids")
	}
	cells := cellsOfNodes(s, w, f, a, l)
	mustGather(t, cells, nameOfNode(s), nil)
	mustGather(t, cells, nameOfNode(w), nil)
	mustNotGather(t, cells, nameOfNode(f))
	mustNotGather(t, cells, nameOfNode(a))
	for ahead := int64(1); ahead <= 8; ahead++ {
		for i, n := range []impl.Node{s, w, f, a} {
			one := stemOf(nameOfNode(n), upTo(ahead)...)
			two := stemOf(nameOfNode(one), 1, 2, 3, 4, 5, 6, 7, 8)
			if i > 1 {
				mustNotGather(t, joined(cells, one), nameOfNode(one))
				mustNotGather(t, joined(cells, one, two), nameOfNode(two))
			} else {
				mustGather(t, joined(cells, one), nameOfNode(one), nil)
				mustGather(t, joined(cells, one, two), nameOfNode(two), nil)
				mustNotGather(t, cellsOfNodes(one, two), nameOfNode(two))
			}
		}
	}
	both := forkOf("", kidAt(1, s), kidAt(2, l), kidAt(3, w))
	mustGather(t, joined(cells, both), nameOfNode(both), map[string]string{"2": "v"})
	valued := forkOf("u", kidAt(0, both), kidAt(4, w))
	under := stemOf(nameOfNode(valued), 9)
	mustGather(t, joined(cells, both, valued, under), nameOfNode(under), map[string]string{"9": "u", "902": "v"})
	mustNotGather(t, joined(cells, both, valued, under), nameOfNode(valued))
	third := forkOf("", kidAt(1, w), kidAt(2, l), kidAt(3, f))
	mustNotGather(t, joined(cells, third), nameOfNode(third))
	lost := forkOf("", kidAt(1, s), kidAt(2, l), impl.Kid{At: 3, Name: 5})
	mustNotGather(t, joined(cells, lost), nameOfNode(lost))
	many, top := planted(numberedPairs(maxPairs))
	root := many[len(many)-1]
	root.Kids = append(slices.Clone(root.Kids), kidAt(14, w), kidAt(15, s))
	mustGather(t, joined(cellsOfNodes(many...), w, s, root), nameOfNode(root), numberedPairs(maxPairs))
	mustGather(t, cellsOfNodes(many...), top, numberedPairs(maxPairs))
}

// P8: what is wrong in two ways is nothing and false all the same.
func TestP8WrongInTwoWays(t *testing.T) {
	nodes, root := planted(numberedPairs(30))
	right := cellsOfNodes(nodes...)
	bent := cloneCells(right)
	bent[3].Name++
	lost, _ := impl.Without(right, nameOfNode(nodes[0]))
	for _, cells := range [][]impl.Cell{bent, lost, right, nil} {
		for _, name := range []int64{root, -1, -root, 5, nameOfNode(nodes[0])} {
			mustNotGather(t, cells, name)
		}
	}
	list := listOf(numberedPairs(30))
	list[3].Key, list[7].Value = "", "A"
	mustBeNoMap(t, list)
	list[12] = list[11]
	mustBeNoMap(t, list)
	mustBeNoMap(t, list[:12])
	mustBeNoMap(t, list[10:14])
}

// drawnGaps are drawn nodes in any shape, some of which are not there, and roots to ask for.
func drawnGaps(r *rand.Rand) ([]impl.Cell, []int64) {
	nodes, names := drawnStairs(r)
	nodes = slices.DeleteFunc(nodes, func(impl.Node) bool { return r.Intn(20) == 0 })
	return cellsOfNodes(nodes...), names[:min(len(names), 24)]
}

// P8: of drawn nodes in any shape, some of which are not there, the pairs are what the document's words tell; and of what is a map TreeOf has the same pairs.
func TestP8DrawnNodes(t *testing.T) {
	r := rand.New(rand.NewSource(83))
	told := map[bool]int{}
	for range 400 {
		cells, roots := drawnGaps(r)
		for _, root := range roots {
			is := mustGatherByWords(t, cells, root)
			told[is]++
			if list, _ := impl.PairsOf(cells, root); is {
				again, top := impl.TreeOf(list)
				if back, same := impl.PairsOf(again, top); !same || !slices.Equal(back, list) || !impl.MapOk(list) {
					t.Fatalf("of %v the tree is %v, %d, and its pairs are %v", list, again, top, back)
				}
			}
		}
	}
	if told[true] < 1500 || told[false] < 1500 {
		t.Fatalf("true and false are told %v times", told)
	}
}

// drawnList is a list of pairs, many of which are a map but for one of them, or for how many they are.
func drawnList(r *rand.Rand) []impl.Pair {
	list := listOf(drawnMap(r, 30))
	if len(list) == 0 || r.Intn(2) == 0 {
		return list
	}
	i, k := r.Intn(len(list)), r.Intn(len(list))
	switch r.Intn(6) {
	case 0:
		list[i], list[k] = list[k], list[i]
	case 1:
		list[i].Key = string(drawnBytes(r, 10))
	case 2:
		list[i].Value = string(drawnBytes(r, 14))
	case 3:
		list[i].Key = drawnKeyAmong(r, 16)
	case 4:
		list[i] = impl.Pair{}
	case 5:
		list = append(list, list[k])
	}
	return list
}

// P19: whatever the list is, there is an answer: that of a map, or what the document tells beside false.
func TestP19TreeOfAnswersAlways(t *testing.T) {
	r := rand.New(rand.NewSource(84))
	told := map[bool]int{}
	for range 3000 {
		list := drawnList(r)
		rises := slices.IsSortedFunc(list, func(a, b impl.Pair) int { return strings.Compare(a.Key, b.Key) })
		pairs := map[string]string{}
		right := rises && len(list) <= maxPairs
		for _, pair := range list {
			right = right && impl.KeyOk(pair.Key) && impl.ValueOk(pair.Value) && pairs[pair.Key] == ""
			pairs[pair.Key] = pair.Value
		}
		told[right]++
		if right {
			mustBuild(t, pairs)
		} else {
			mustBeNoMap(t, list)
		}
	}
	if told[true] < 1000 || told[false] < 1000 {
		t.Fatalf("true and false are told %v times", told)
	}
}

// gatherPools are cells to draw from: those of trees, of which one has too many pairs, and others.
func gatherPools() [][]impl.Cell {
	pools := append(someCells(), badCells()...)
	for _, pairs := range append(someMaps(), longestPairs(), numberedPairs(27)) {
		nodes, _ := planted(pairs)
		pools = append(pools, cellsOfNodes(nodes...))
	}
	return pools
}

// P19: whatever the cells and the root are, there is an answer.
func TestP19PairsOfAnswersAlways(t *testing.T) {
	r := rand.New(rand.NewSource(85))
	pools := gatherPools()
	for range 3000 {
		cells, root := drawnCells(r, pools)
		switch {
		case !impl.CellsOk(cells) || root < 0:
			mustNotGather(t, cells, root)
		case root == nameOfNode(selfNamed()):
			mustGather(t, cells, root, nil)
		default:
			mustGatherByWords(t, cells, root)
		}
	}
}

// P19: the list of pairs stays, and so does the spare room behind it; no answer depends on that room.
func TestP19TreeOfLeavesItsArguments(t *testing.T) {
	r := rand.New(rand.NewSource(86))
	spare := []impl.Pair{{Key: "fffffff0", Value: "spare"}, {Key: "ffffffff", Value: "spare"}, {Value: "x"}}
	for range 500 {
		list := drawnList(r)
		want := fmt.Sprintln(impl.MapOk(list))
		cells, root := impl.TreeOf(slices.Clone(list))
		want += fmt.Sprintln(cells, root)
		mustStay(t, list, spare, func(arg []impl.Pair) {
			got := fmt.Sprintln(impl.MapOk(arg))
			cells, root := impl.TreeOf(arg)
			if got += fmt.Sprintln(cells, root); got != want {
				t.Fatalf("of %v with spare room: %s, without: %s", list, got, want)
			}
		})
	}
}

// gatherCells are cells in which PairsOf tells true or false, with the roots that are asked for.
func gatherCells() ([][]impl.Cell, []int64) {
	nodes := sampleNodes()
	many, top := planted(numberedPairs(27))
	lost, _ := impl.Without(cellsOfNodes(nodes...), nameOfNode(nodes[0]))
	selves := cellsOfNodes(selfNamed(), selfForked(), selfForkedWidely(), selfForkedAhead(), leafOf("v"))
	lists := slices.Concat(someCells(), badCells(), [][]impl.Cell{lost, cellsOfNodes(many...), selves})
	roots := append(namesOf(selves), 0, 5, -1, top, nameOfNode(nodes[4]), nameOfNode(nodes[3]), nameOfNode(nodes[0]), nameOfNode(numberedLeaf(10)))
	return lists, roots
}

// P19: the cells stay, and so does the spare room behind them; no answer depends on that room.
func TestP19PairsOfLeavesItsArguments(t *testing.T) {
	lists, roots := gatherCells()
	for _, cells := range lists {
		for _, root := range roots {
			want, told := impl.PairsOf(cloneCells(cells), root)
			mustLeave(t, cells, func(arg []impl.Cell) {
				if got, is := impl.PairsOf(arg, root); is != told || !slices.Equal(got, want) {
					t.Fatalf("PairsOf(%v, %d) = %v, %v with spare room, %v, %v without", cells, root, got, is, want, told)
				}
			})
		}
	}
}

// P19: the cells that are answered are new memory, each of the Bytes by itself.
func TestP19TreeOfIsNewMemory(t *testing.T) {
	for _, pairs := range append(someMaps(), nil, longestPairs(), numberedPairs(maxPairs), numberedPairs(27)) {
		mustBeNewCells(t, nil, func([]impl.Cell) []impl.Cell {
			cells, _ := impl.TreeOf(listOf(pairs))
			return cells
		})
		arg := listOf(pairs)
		cells, _ := impl.TreeOf(arg)
		want := cloneCells(cells)
		clear(arg[:cap(arg)])
		if !sameCells(cells, want) {
			t.Fatalf("%v is another tree once the list is written into", pairs)
		}
		arg = listOf(pairs)
		spoilCells(cells)
		if !slices.Equal(arg, listOf(pairs)) {
			t.Fatalf("%v is another list once the tree is written into", pairs)
		}
	}
}

// mustBeNewPairs fails when pairs that are answered share memory with the cells or with another answer, with their texts.
func mustBeNewPairs(t *testing.T, cells []impl.Cell, call func(arg []impl.Cell) []impl.Pair) {
	t.Helper()
	arg := cloneCells(cells)
	first, second := call(arg), call(arg)
	want := slices.Clone(second)
	for i := range first {
		want[i] = impl.Pair{Key: strings.Clone(second[i].Key), Value: strings.Clone(second[i].Value)}
	}
	clear(first[:cap(first)])
	if !sameCells(arg, cells) || !slices.Equal(second, want) {
		t.Fatalf("the pairs %v share memory with the cells or with another answer", want)
	}
	spoilCells(arg)
	if !slices.Equal(second, want) {
		t.Fatalf("the pairs %v are %v once the cells are written into", want, second)
	}
	if third := call(cells); !slices.Equal(third, want) {
		t.Fatalf("%v behind a spoilt answer, want %v", third, want)
	}
}

// P19: the pairs that are answered are new memory, with their texts.
func TestP19PairsOfIsNewMemory(t *testing.T) {
	lists, roots := gatherCells()
	for _, cells := range lists {
		for _, root := range roots {
			mustBeNewPairs(t, cells, func(arg []impl.Cell) []impl.Pair {
				list, _ := impl.PairsOf(arg, root)
				return list
			})
		}
	}
}
