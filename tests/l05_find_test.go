package tests

import (
	"math"
	"math/rand"
	"slices"
	"strings"
	"testing"

	"loop.example/g00754/impl"
)

const (
	fdThere = 0
	fdNone  = 1
	fdLost  = 2
	fdBad   = 3
)

// badKeys are not KeyOk.
func badKeys() []string {
	return []string{
		"", "g", "A", "1A", "1g", "g1", " ", "1 ", " 1", "-", "1-", "\x00", "1\x00", "\n", "1\n", "1\xff", "\xff1", "é", "1é", "\u0661",
		"123456789", "000000000", "1234567g", "12345678 ", strings.Repeat("1", 256), strings.Repeat("1", 264), strings.Repeat("2", 70000),
	}
}

// badCells are not CellsOk, though the tree of sampleNodes is among most of them.
func badCells() [][]impl.Cell {
	list := [][]impl.Cell{make([]impl.Cell, 1), cellsOfNodes(append(numberedLeaves(maxCells-4), sampleNodes()...)...)}
	cells := cellsOfNodes(sampleNodes()...)
	for i := range cells {
		named, bent, cut := cloneCells(cells), cloneCells(cells), cloneCells(cells)
		named[i].Name++
		bent[i].Bytes[0]++
		cut[i].Bytes = nil
		list = append(list, named, bent, cut, slices.Insert(cloneCells(cells), i, cells[i]))
	}
	for i := range len(cells) - 1 {
		swapped := cloneCells(cells)
		swapped[i], swapped[i+1] = swapped[i+1], swapped[i]
		list = append(list, swapped)
	}
	return list
}

// mustFind asks for just this answer.
func mustFind(t *testing.T, cells []impl.Cell, root int64, key, value string, code int64) {
	t.Helper()
	if v, k := impl.Found(cells, root, key); v != value || k != code {
		t.Fatalf("Found(%v, %d, %q) = %q, %d, want %q, %d", cells, root, key, v, k, value, code)
	}
}

// mustFindAll asks for each key of the list.
func mustFindAll(t *testing.T, cells []impl.Cell, root int64, keys []string, value string, code int64) {
	t.Helper()
	for _, key := range keys {
		mustFind(t, cells, root, key, value, code)
	}
}

// mustHoldMap asks for each key of the map, and that each other one is not there.
func mustHoldMap(t *testing.T, cells []impl.Cell, root int64, pairs map[string]string, keys []string) {
	t.Helper()
	for key, value := range pairs {
		mustFind(t, cells, root, key, value, fdThere)
	}
	for _, key := range keys {
		if value, is := pairs[key]; is {
			mustFind(t, cells, root, key, value, fdThere)
		} else {
			mustFind(t, cells, root, key, "", fdNone)
		}
	}
}

// planted are the nodes of the tree of that map, and its root, made from the whole map at once: what all keys begin with is a stem, where they part is a fork.
func planted(pairs map[string]string) ([]impl.Node, int64) {
	if len(pairs) == 0 {
		return nil, 0
	}
	keys := []string{}
	for key := range pairs {
		keys = append(keys, key)
	}
	slices.Sort(keys)
	first, last := keys[0], keys[len(keys)-1]
	if len(keys) == 1 {
		n := leafOf(pairs[first], worths(first)...)
		return []impl.Node{n}, nameOfNode(n)
	}
	same := 0
	for same < len(first) && first[same] == last[same] {
		same++
	}
	if same > 0 {
		nodes, kid := planted(behind(pairs, first[:same]))
		n := stemOf(kid, worths(first[:same])...)
		return append(nodes, n), nameOfNode(n)
	}
	nodes, n := []impl.Node{}, forkOf(pairs[""])
	for at := range int64(16) {
		below, kid := planted(behind(pairs, hexDigits[at:at+1]))
		if kid != 0 {
			nodes = append(nodes, below...)
			n.Kids = append(n.Kids, impl.Kid{At: at, Name: kid})
		}
	}
	return append(nodes, n), nameOfNode(n)
}

// behind are the pairs whose keys begin with that, without it.
func behind(pairs map[string]string, begin string) map[string]string {
	rest := map[string]string{}
	for key, value := range pairs {
		if strings.HasPrefix(key, begin) {
			rest[key[len(begin):]] = value
		}
	}
	return rest
}

// drawnMap has keys of few digits, so that many begin with another one.
func drawnMap(r *rand.Rand, most int) map[string]string {
	pairs := map[string]string{}
	digits := 1 + r.Intn(16)
	for range r.Intn(most + 1) {
		key := drawnKeyAmong(r, digits)
		pairs[key] = string(valueLetters[r.Intn(36)]) + key
	}
	return pairs
}

func drawnKeyAmong(r *rand.Rand, digits int) string {
	b := make([]byte, 1+r.Intn(8))
	for i := range b {
		b[i] = hexDigits[r.Intn(digits)]
	}
	return string(b)
}

// keysNear are the key, what it begins with, those that begin with it, and those with one digit changed.
func keysNear(key string) []string {
	keys := []string{}
	for size := 1; size <= len(key); size++ {
		keys = append(keys, key[:size])
		for _, digit := range "07af" {
			keys = append(keys, key[:size-1]+string(digit)+key[size:])
		}
	}
	for _, more := range []string{"0", "7", "f", "00", "0000000"} {
		if len(key+more) <= 8 {
			keys = append(keys, key+more, more+key)
		}
	}
	return keys
}

// digitsOf is a path, or a part of it, in digits.
func digitsOf(path []int64) string {
	text := ""
	for _, worth := range path {
		text += hexDigits[worth : worth+1]
	}
	return text
}

// walked is the document's words, over the digits of the key.
func walked(there map[int64]impl.Node, name int64, rest string) (string, int64) {
	n, is := there[name]
	path := digitsOf(n.Path)
	switch {
	case name == 0:
		return "", fdNone
	case !is:
		return "", fdLost
	case n.Kind == 1 && path == rest:
		return n.Value, fdThere
	case n.Kind == 2 && strings.HasPrefix(rest, path):
		return walked(there, n.Kids[0].Name, strings.TrimPrefix(rest, path))
	case n.Kind == 3 && rest == "" && n.Value != "":
		return n.Value, fdThere
	case n.Kind == 3 && rest != "":
		for _, kid := range n.Kids {
			if digitsOf([]int64{kid.At}) == rest[:1] {
				return walked(there, kid.Name, rest[1:])
			}
		}
	}
	return "", fdNone
}

// selfForked is a fork with a value whose Kid behind a is itself; like selfNamed it was searched for.
func selfForked() impl.Node {
	return forkOf("rj1gkd40op7k", impl.Kid{At: 10, Name: 139028598775665497})
}

// keysOver are all keys of at most that many digits, each one of these.
func keysOver(digits string, most int) []string {
	keys, last := []string{}, []string{""}
	for range most {
		next := []string{}
		for _, key := range last {
			for _, digit := range digits {
				next = append(next, key+string(digit))
			}
		}
		keys, last = append(keys, next...), next
	}
	return keys
}

// The codes have no type of their own: an int64 and a byte take them.
const (
	codeInt  int64 = impl.FdBad
	codeByte byte  = impl.FdFull
)

func TestP5Constants(t *testing.T) {
	if impl.FdThere != 0 || impl.FdNone != 1 || impl.FdLost != 2 || impl.FdBad != 3 || impl.FdFull != 4 || codeInt != 3 || codeByte != 4 {
		t.Fatalf("FdThere %d, FdNone %d, FdLost %d, FdBad %d, FdFull %d, want 0 to 4", impl.FdThere, impl.FdNone, impl.FdLost, impl.FdBad, impl.FdFull)
	}
}

// P5, by hand: 1a=x, 1ab=y, 2=z, 3=z; the key 1a is the beginning of 1ab.
func TestP5ByHand(t *testing.T) {
	nodes := sampleNodes()
	cells, root := cellsOfNodes(nodes...), nameOfNode(nodes[4])
	mustFind(t, cells, root, "1a", "x", fdThere)
	mustFind(t, cells, root, "1ab", "y", fdThere)
	mustFind(t, cells, root, "2", "z", fdThere)
	mustFind(t, cells, root, "3", "z", fdThere)
	none := []string{"1", "0", "4", "f", "a", "1b", "10", "1ba", "1a0", "1aa", "1ac", "1abb", "1ab0", "11a", "20", "22", "33", "01a", "1a1ab", "1ab00000", "22222222"}
	mustFindAll(t, cells, root, none, "", fdNone)
}

// P5: of a map in many shapes just its keys are found, of all keys of up to three digits.
func TestP5EveryKey(t *testing.T) {
	keys := keysOver(hexDigits, 3)
	for _, pairs := range []map[string]string{
		{},
		{"1a": "x", "1ab": "y", "2": "z"},
		{"0": "a", "00": "b", "000": "c", "0000": "d"},
		{"f": "a", "fff": "b", "ffe": "c", "0ff": "d"},
		{"7": "seven"},
		{"777": "sevens"},
		{"12345678": "far", "123": "near", "12345679": "next"},
	} {
		nodes, root := planted(pairs)
		mustHoldMap(t, cellsOfNodes(nodes...), root, pairs, keys)
	}
}

// P5: of drawn maps the keys are found, and those near them are not.
func TestP5DrawnMaps(t *testing.T) {
	r := rand.New(rand.NewSource(51))
	for range 150 {
		pairs := drawnMap(r, 26)
		nodes, root := planted(pairs)
		keys := []string{}
		for key := range pairs {
			keys = append(keys, keysNear(key)...)
		}
		for range 20 {
			keys = append(keys, drawnKeyAmong(r, 16))
		}
		mustHoldMap(t, cellsOfNodes(nodes...), root, pairs, keys)
	}
}

// P5: each node of a tree is the root of a tree of its own.
func TestP5EachNodeIsARoot(t *testing.T) {
	nodes := sampleNodes()
	cells := cellsOfNodes(nodes...)
	keys := keysOver("0123ab", 3)
	for i, pairs := range []map[string]string{{}, {}, {"b": "y"}, {"a": "x", "ab": "y"}, {"1a": "x", "1ab": "y", "2": "z", "3": "z"}} {
		mustHoldMap(t, cells, nameOfNode(nodes[i]), pairs, keys)
	}
}

// P5: in the empty tree nothing is there, whatever the cells are.
func TestP5RootZero(t *testing.T) {
	for _, cells := range someCells() {
		mustFindAll(t, cells, 0, []string{"0", "1a", "1ab", "2", "283", "ffffffff"}, "", fdNone)
	}
	mustFindAll(t, nil, 0, keysOver(hexDigits, 2), "", fdNone)
}

// P5: a root below 0, also where the number without its sign is one of the names.
func TestP5RootBelowZero(t *testing.T) {
	for _, cells := range someCells() {
		roots := []int64{-1, -2, -1 << 31, math.MinInt64, math.MinInt64 + 1}
		for _, c := range cells {
			roots = append(roots, -c.Name, ^c.Name, c.Name|math.MinInt64)
		}
		for _, root := range roots {
			mustFindAll(t, cells, root, []string{"0", "1a", "2"}, "", fdBad)
		}
	}
}

// P5: a root that is not among the cells.
func TestP5RootNotThere(t *testing.T) {
	for _, cells := range someCells() {
		roots := []int64{1, 2, math.MaxInt64, impl.NameOf(nil), nameOfNode(leafOf("nothere"))}
		for _, c := range cells {
			roots = append(roots, c.Name-1, c.Name+1)
		}
		for _, root := range roots {
			mustFindAll(t, cells, root, []string{"0", "1a", "2", "ffffffff"}, "", fdLost)
		}
	}
	for _, n := range sampleNodes() {
		name := nameOfNode(n)
		less, _ := impl.Without(cellsOfNodes(sampleNodes()...), name)
		mustFindAll(t, less, name, []string{"0", "1a", "2", "b"}, "", fdLost)
	}
}

// P5: cells that are not CellsOk, also where the bad one is not on the way, and where nothing is asked of them.
func TestP5BadCells(t *testing.T) {
	root := nameOfNode(sampleNodes()[4])
	for _, cells := range badCells() {
		for _, name := range []int64{root, 0, 5, -5, math.MaxInt64, math.MinInt64} {
			mustFindAll(t, cells, name, []string{"1a", "1ab", "2", "0"}, "", fdBad)
			mustFindAll(t, cells, name, []string{"", "1A", "123456789"}, "", fdBad)
		}
	}
}

// P5: MaxCells cells, and one more that is never asked for.
func TestP5MaxCells(t *testing.T) {
	nodes := sampleNodes()
	root := nameOfNode(nodes[4])
	full := append(numberedLeaves(maxCells-5), nodes...)
	mustFind(t, cellsOfNodes(full...), root, "1ab", "y", fdThere)
	mustFind(t, cellsOfNodes(full...), root, "1", "", fdNone)
	mustFind(t, cellsOfNodes(append(full, leafOf("more"))...), root, "1ab", "", fdBad)
}

// P5: a key that is not KeyOk, also where something stands at its path.
func TestP5BadKeys(t *testing.T) {
	end := leafOf("end")
	nine := leafOf("nine", 9)
	far := stemOf(nameOfNode(nine), 1, 2, 3, 4, 5, 6, 7, 8)
	here := forkOf("here", impl.Kid{At: 1, Name: nameOfNode(end)})
	cells := cellsOfNodes(end, nine, far, here)
	for _, key := range badKeys() {
		for _, n := range []impl.Node{end, nine, far, here} {
			mustFind(t, cells, nameOfNode(n), key, "", fdBad)
		}
		for _, cells := range someCells() {
			for _, root := range []int64{0, 5, -5, nameOfNode(sampleNodes()[4])} {
				mustFind(t, cells, root, key, "", fdBad)
			}
		}
	}
	mustFind(t, cells, nameOfNode(far), "12345678", "", fdNone)
}

// P5: keys of 1 to MaxKey digits, and one more, each the whole Path of a leaf, of a stem, or gone fork by fork.
func TestP5KeySizes(t *testing.T) {
	for size := 1; size <= 9; size++ {
		key := "123456789"[:size]
		path := worths(key)
		end := leafOf("end")
		nodes, roots := []impl.Node{end}, []int64{}
		if size < 9 {
			nodes = append(nodes, leafOf("end", path...), stemOf(nameOfNode(end), path...))
			roots = append(roots, nameOfNode(nodes[1]), nameOfNode(nodes[2]))
		}
		last := end
		for i := size - 1; i >= 0; i-- {
			last = forkOf("v", impl.Kid{At: path[i], Name: nameOfNode(last)})
			nodes = append(nodes, last)
		}
		for _, root := range append(roots, nameOfNode(last)) {
			if size < 9 {
				mustFind(t, cellsOfNodes(nodes...), root, key, "end", fdThere)
			} else {
				mustFind(t, cellsOfNodes(nodes...), root, key, "", fdBad)
			}
		}
	}
}

// P5: a leaf whose Path is longer or shorter than what is left of the key, or another one; at the root, below a stem and below a fork.
func TestP5LeafPaths(t *testing.T) {
	other := leafOf("other")
	for _, c := range []struct {
		path string
		rest string
		code int64
	}{
		{"", "", fdThere}, {"", "0", fdNone}, {"", "7", fdNone}, {"0", "", fdNone}, {"7", "", fdNone}, {"7", "7", fdThere}, {"7", "77", fdNone},
		{"77", "7", fdNone}, {"7", "8", fdNone}, {"0", "f", fdNone}, {"123", "123", fdThere}, {"123", "12", fdNone}, {"123", "1234", fdNone},
		{"123", "124", fdNone}, {"123", "023", fdNone}, {"123", "321", fdNone}, {"123", "1", fdNone}, {"123", "1230", fdNone}, {"000", "00", fdNone},
		{"00", "000", fdNone}, {"fedcba", "fedcba", fdThere}, {"fedcba", "fedcbb", fdNone}, {"fedcba", "", fdNone}, {"12345678", "123456", fdNone},
	} {
		l := leafOf("value", worths(c.path)...)
		name, value := nameOfNode(l), ""
		if c.code == fdThere {
			value = "value"
		}
		if c.rest != "" {
			mustFind(t, cellsOfNodes(l), name, c.rest, value, c.code)
		}
		s := stemOf(name, 4, 5)
		mustFind(t, cellsOfNodes(l, s), nameOfNode(s), "45"+c.rest, value, c.code)
		f := forkOf("", impl.Kid{At: 3, Name: name}, impl.Kid{At: 6, Name: nameOfNode(other)})
		mustFind(t, cellsOfNodes(l, f, other), nameOfNode(f), "3"+c.rest, value, c.code)
	}
}

// P5: a stem whose Path is at the beginning of what is left, or is not: it is another one, or too long; at the root, below a stem and below a fork.
func TestP5StemPaths(t *testing.T) {
	end, below := leafOf("end"), leafOf("below", 7)
	f := forkOf("here", impl.Kid{At: 0, Name: nameOfNode(end)}, impl.Kid{At: 7, Name: nameOfNode(end)})
	for _, c := range []struct {
		path, key string
		on        bool
		rest      string
	}{
		{"7", "7", true, ""}, {"7", "77", true, "7"}, {"7", "8", false, ""}, {"7", "87", false, ""}, {"7", "777", true, "77"}, {"0", "0", true, ""},
		{"12", "12", true, ""}, {"12", "127", true, "7"}, {"12", "1", false, ""}, {"12", "13", false, ""}, {"12", "137", false, ""}, {"12", "22", false, ""},
		{"12", "227", false, ""}, {"12", "21", false, ""}, {"12", "120", true, "0"}, {"12", "7", false, ""}, {"12", "112", false, ""},
		{"000", "00", false, ""}, {"000", "000", true, ""}, {"000", "0000", true, "0"}, {"12345", "1234", false, ""}, {"12345", "123457", true, "7"}, {"12345", "12346", false, ""},
	} {
		want := map[string]map[int64]string{
			"":  {nameOfNode(end): "end", nameOfNode(f): "here"},
			"7": {nameOfNode(below): "below", nameOfNode(f): "end"},
			"0": {nameOfNode(f): "end"},
		}
		for _, kid := range []impl.Node{end, below, f} {
			value, code := "", int64(fdNone)
			if v, is := want[c.rest][nameOfNode(kid)]; is && c.on {
				value, code = v, fdThere
			}
			s := stemOf(nameOfNode(kid), worths(c.path)...)
			above := stemOf(nameOfNode(s), 4, 5)
			fork := forkOf("", impl.Kid{At: 3, Name: nameOfNode(s)}, impl.Kid{At: 6, Name: nameOfNode(end)})
			cells := cellsOfNodes(end, below, f, s, above, fork)
			mustFind(t, cells, nameOfNode(s), c.key, value, code)
			mustFind(t, cells, nameOfNode(above), "45"+c.key, value, code)
			mustFind(t, cells, nameOfNode(fork), "3"+c.key, value, code)
			mustFind(t, cells, nameOfNode(above), "45", "", fdNone)
			mustFind(t, cells, nameOfNode(fork), "3", "", fdNone)
		}
	}
}

// P5: a fork with nothing left has its Value, or none; it is not that of a Kid, nor is it found behind it.
func TestP5ForkValues(t *testing.T) {
	end := leafOf("end")
	for _, value := range []string{"", "here", "0"} {
		f := forkOf(value, impl.Kid{At: 0, Name: nameOfNode(end)}, impl.Kid{At: 15, Name: nameOfNode(end)})
		s := stemOf(nameOfNode(f), 0, 15)
		above := forkOf("above", impl.Kid{At: 0, Name: nameOfNode(f)}, impl.Kid{At: 1, Name: nameOfNode(s)})
		cells := cellsOfNodes(end, f, s, above)
		code := int64(fdThere)
		if value == "" {
			code = fdNone
		}
		mustFind(t, cells, nameOfNode(s), "0f", value, code)
		mustFind(t, cells, nameOfNode(above), "0", value, code)
		mustFind(t, cells, nameOfNode(above), "10f", value, code)
		mustFindAll(t, cells, nameOfNode(s), []string{"0f0", "0ff"}, "end", fdThere)
		mustFindAll(t, cells, nameOfNode(above), []string{"00", "0f", "10f0", "10ff"}, "end", fdThere)
		mustFindAll(t, cells, nameOfNode(above), []string{"1", "10", "01", "0e", "10f1", "10fe", "000", "00f"}, "", fdNone)
	}
}

// P5: a fork goes on from the Kid at just the next number.
func TestP5ForkKids(t *testing.T) {
	nodes, kids := []impl.Node{}, []impl.Kid{}
	for at := range int64(16) {
		nodes = append(nodes, leafOf("kid"+hexDigits[at:at+1]))
		kids = append(kids, impl.Kid{At: at, Name: nameOfNode(nodes[at])})
	}
	for mask := 1; mask < 1<<16; mask = mask*5/3 + 1 {
		f := forkOf("here")
		for at := range int64(16) {
			if mask>>at&1 == 1 {
				f.Kids = append(f.Kids, kids[at])
			}
		}
		cells := cellsOfNodes(append(slices.Clone(nodes), f)...)
		for at := range int64(16) {
			key := hexDigits[at : at+1]
			if mask>>at&1 == 1 {
				mustFind(t, cells, nameOfNode(f), key, "kid"+key, fdThere)
			} else {
				mustFind(t, cells, nameOfNode(f), key, "", fdNone)
			}
			mustFind(t, cells, nameOfNode(f), key+key, "", fdNone)
		}
	}
}

// P5: a Kid that is not there, below a stem and below a fork, is FdLost where the way goes there, whatever is left; else it does not matter.
func TestP5LostKids(t *testing.T) {
	end := leafOf("end")
	s := stemOf(5, 1, 2)
	f := forkOf("here", impl.Kid{At: 3, Name: 6}, impl.Kid{At: 4, Name: nameOfNode(end)}, impl.Kid{At: 9, Name: nameOfNode(s)})
	above := stemOf(nameOfNode(f), 9)
	cells := cellsOfNodes(end, s, f, above)
	mustFindAll(t, cells, nameOfNode(s), []string{"12", "121", "12345678", "1200"}, "", fdLost)
	mustFindAll(t, cells, nameOfNode(s), []string{"1", "2", "11", "13", "112", "0"}, "", fdNone)
	mustFindAll(t, cells, nameOfNode(f), []string{"3", "30", "33", "3ffffff", "912", "9120"}, "", fdLost)
	mustFindAll(t, cells, nameOfNode(f), []string{"0", "2", "5", "40", "9", "91", "913", "43"}, "", fdNone)
	mustFind(t, cells, nameOfNode(f), "4", "end", fdThere)
	mustFindAll(t, cells, nameOfNode(above), []string{"93", "9300", "9912", "99121"}, "", fdLost)
	mustFind(t, cells, nameOfNode(above), "9", "here", fdThere)
	mustFind(t, cells, nameOfNode(above), "94", "end", fdThere)
	mustFindAll(t, cells, nameOfNode(above), []string{"3", "95", "99", "991", "940"}, "", fdNone)
}

// P5: in the tree made by hand, without one of its nodes: just the keys whose way goes there are lost.
func TestP5OneNodeGone(t *testing.T) {
	nodes := sampleNodes()
	root := nameOfNode(nodes[4])
	values := map[string]string{"1a": "x", "1ab": "y", "2": "z", "3": "z"}
	keys := []string{"1", "1a", "1ab", "2", "3", "1b", "1ac", "1abc", "22", "0"}
	for i, lost := range [][]string{
		{"1ab", "1abc"},
		{"2", "3", "22"},
		{"1a", "1ab", "1ac", "1abc"},
		{"1", "1a", "1ab", "1b", "1ac", "1abc"},
		keys,
	} {
		less := cellsOfNodes(slices.Delete(slices.Clone(nodes), i, i+1)...)
		for _, key := range keys {
			value, is := values[key]
			switch {
			case slices.Contains(lost, key):
				mustFind(t, less, root, key, "", fdLost)
			case is:
				mustFind(t, less, root, key, value, fdThere)
			default:
				mustFind(t, less, root, key, "", fdNone)
			}
		}
	}
}

// P5: nodes that are reached from themselves; the answer still comes, and going through a node again is as going through it at first.
func TestP5ReachedFromItself(t *testing.T) {
	s, f := selfNamed(), selfForked()
	if nameOfNode(s) != s.Kids[0].Name || nameOfNode(f) != f.Kids[0].Name {
		t.Fatal("these are not their own Kids")
	}
	above := forkOf("above", impl.Kid{At: 2, Name: nameOfNode(s)}, impl.Kid{At: 10, Name: nameOfNode(f)})
	cells := cellsOfNodes(s, f, above)
	mustFindAll(t, cells, nameOfNode(s), keysOver("28", 6), "", fdNone)
	mustFindAll(t, cells, nameOfNode(s), []string{"283", "283283", "28328328", "2832", "28328", "283282"}, "", fdNone)
	mustFindAll(t, cells, nameOfNode(above), []string{"2", "2283", "2283283", "22832832"}, "", fdNone)
	for size := 1; size <= 8; size++ {
		key := strings.Repeat("a", size)
		mustFind(t, cells, nameOfNode(f), key, f.Value, fdThere)
		mustFind(t, cells, nameOfNode(above), key, f.Value, fdThere)
		mustFind(t, cells, nameOfNode(f), key[1:]+"b", "", fdNone)
		mustFind(t, cells, nameOfNode(f), "b"+key[1:], "", fdNone)
	}
	mustFind(t, cells, nameOfNode(f), "aaaaaaaaa", "", fdBad)
}

// P5: what is wrong with an argument goes ahead of what is not there, however many are wrong.
func TestP5WrongInTwoWays(t *testing.T) {
	nodes := sampleNodes()
	right, root := cellsOfNodes(nodes...), nameOfNode(nodes[4])
	bent := cloneCells(right)
	bent[0].Name++
	lost, _ := impl.Without(right, nameOfNode(nodes[0]))
	for _, c := range []struct {
		cells []impl.Cell
		root  int64
		key   string
	}{
		{bent, 0, "1a"}, {bent, 5, "1a"}, {bent, -1, "1a"}, {bent, root, "4"}, {bent, root, ""}, {bent, -1, ""}, {bent, 0, "1A"},
		{right, 0, ""}, {right, 0, "1A"}, {right, 5, "1A"}, {right, 5, "123456789"}, {right, -1, "4"}, {right, -1, "1A"}, {right, -1, ""},
		{nil, 0, ""}, {nil, 5, "g"}, {nil, -1, "1"}, {nil, -1, "g"}, {lost, root, "1abg"}, {lost, root, "1abA"}, {lost, root, "1ab000000"}, {lost, -1, "1ab"},
	} {
		mustFind(t, c.cells, c.root, c.key, "", fdBad)
	}
	mustFind(t, lost, 0, "1ab", "", fdNone)
	mustFind(t, lost, root, "1ab", "", fdLost)
}

// P5: of drawn nodes in any shape, some of which are not there, the answer is what the document's words tell, and the value is empty with each code but FdThere.
func TestP5DrawnNodes(t *testing.T) {
	r := rand.New(rand.NewSource(52))
	told := map[int64]int{}
	for range 150 {
		nodes, names := drawnStairs(r)
		there, kept := map[int64]impl.Node{}, []impl.Node{}
		for _, n := range nodes {
			if r.Intn(10) > 0 {
				there[nameOfNode(n)] = n
				kept = append(kept, n)
			}
		}
		cells := cellsOfNodes(kept...)
		for range 120 {
			root, key := names[len(names)-1-r.Intn(min(8, len(names)))], drawnKeyAmong(r, 3)
			if r.Intn(2) == 0 {
				key = key[:1+r.Intn(len(key))]
			}
			value, code := walked(there, root, key)
			mustFind(t, cells, root, key, value, code)
			told[code]++
			if code != fdThere && value != "" {
				t.Fatalf("%q with the code %d", value, code)
			}
		}
	}
	for code := range int64(fdBad) {
		if told[code] < 500 {
			t.Fatalf("the code %d is told only %d times", code, told[code])
		}
	}
}

// drawnStairs is nodes of few digits whose Kids are among those ahead of them, and the names of all, and 0.
func drawnStairs(r *rand.Rand) ([]impl.Node, []int64) {
	nodes, names := []impl.Node{leafOf("a"), leafOf("b", 1)}, []int64{0, 7}
	for _, n := range nodes {
		names = append(names, nameOfNode(n))
	}
	for range 5 + r.Intn(50) {
		one := func() int64 { return names[1+r.Intn(len(names)-1)] }
		path := worths(drawnKeyAmong(r, 3)[:1])
		n := forkOf("", impl.Kid{At: 0, Name: one()}, impl.Kid{At: 1, Name: one()}, impl.Kid{At: 2, Name: one()})
		switch r.Intn(5) {
		case 0:
			n = leafOf("c", path...)
		case 1:
			n = stemOf(one(), path...)
		case 2:
			n = stemOf(one(), append(path, path...)...)
		case 3:
			n = forkOf("d", impl.Kid{At: int64(r.Intn(3)), Name: one()})
		}
		nodes, names = append(nodes, n), append(names, nameOfNode(n))
	}
	return nodes, names
}

// drawnCells is cells of one of the pools, some with other Bytes, and a root that is among them, or is not, or is below 0.
func drawnCells(r *rand.Rand, pools [][]impl.Cell) ([]impl.Cell, int64) {
	cells := cloneCells(pools[r.Intn(len(pools))])
	if len(cells) > 0 && r.Intn(3) == 0 {
		c := &cells[r.Intn(len(cells))]
		c.Bytes = drawnBytes(r, 40)
		if r.Intn(2) == 0 {
			c.Name = impl.NameOf(c.Bytes)
		}
	}
	root := r.Int63() >> r.Intn(63)
	if len(cells) > 0 && r.Intn(3) > 0 {
		root = cells[r.Intn(len(cells))].Name
	}
	if r.Intn(6) == 0 {
		root = -root
	}
	return cells, root
}

// P19: whatever the arguments are, there is an answer, with one of the codes, and it is the same again.
func TestP19FoundAnswersAlways(t *testing.T) {
	r := rand.New(rand.NewSource(53))
	pools := append(someCells(), badCells()...)
	for range 4000 {
		cells, root := drawnCells(r, pools)
		key := string(drawnBytes(r, 10))
		if r.Intn(3) > 0 {
			key = drawnKeyAmong(r, 16)
		}
		value, code := impl.Found(cells, root, key)
		if code < fdThere || code > fdBad || (value == "") != (code != fdThere) {
			t.Fatalf("Found(%v, %d, %q) = %q, %d", cells, root, key, value, code)
		}
		if bad := !impl.CellsOk(cells) || !impl.KeyOk(key) || root < 0; bad != (code == fdBad) {
			t.Fatalf("Found(%v, %d, %q) = %q, %d", cells, root, key, value, code)
		}
		mustFind(t, cells, root, key, value, code)
	}
}

// P19: the cells stay, and so does the spare room behind them; no answer depends on that room.
func TestP19FoundLeavesItsArguments(t *testing.T) {
	nodes := sampleNodes()
	root := nameOfNode(nodes[4])
	lost, _ := impl.Without(cellsOfNodes(nodes...), nameOfNode(nodes[0]))
	lists := slices.Concat(someCells(), badCells(), [][]impl.Cell{lost, cellsOfNodes(selfNamed(), selfForked())})
	for _, cells := range lists {
		for _, name := range []int64{root, 0, 5, -1, nameOfNode(nodes[3]), nameOfNode(selfNamed()), nameOfNode(selfForked())} {
			for _, key := range []string{"1a", "1ab", "a", "ab", "2", "4", "283283", "aaaa", "", "1A", "123456789"} {
				value, code := impl.Found(cloneCells(cells), name, key)
				mustLeave(t, cells, func(cells []impl.Cell) {
					mustFind(t, cells, name, key, value, code)
				})
			}
		}
	}
}

// P19: a value that is found shares no memory with the cells.
func TestP19FoundValuesAreNewMemory(t *testing.T) {
	for key, n := range map[string]impl.Node{"7": leafOf("abcdefghij09", 7), "aaa": selfForked()} {
		arg := cellsOfNodes(n)
		value, _ := impl.Found(arg, nameOfNode(n), key)
		spoilCells(arg)
		if value != n.Value {
			t.Fatalf("%q is %q once the cells are written into", n.Value, value)
		}
	}
}
