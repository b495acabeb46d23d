package tests

import (
	"bytes"
	"fmt"
	"math"
	"math/rand"
	"slices"
	"strings"
	"testing"

	"loop.example/g00754/impl"
)

// mostOnTheWay is how many nodes a way has at most: each but the last one takes a number of the key.
const mostOnTheWay = 9

// proofBy is the bytes of these nodes, in order, written out with nothing of the program.
func proofBy(nodes ...impl.Node) [][]byte {
	proof := [][]byte{}
	for _, n := range nodes {
		proof = append(proof, bytesOf(n))
	}
	return proof
}

// downByWords is the Kid from which the way goes on, and what is left there; 0 where it ends.
func downByWords(n impl.Node, rest string) (int64, string) {
	path := digitsOf(n.Path)
	if n.Kind == 2 && strings.HasPrefix(rest, path) {
		return n.Kids[0].Name, strings.TrimPrefix(rest, path)
	}
	if n.Kind == 3 && rest != "" {
		for _, kid := range n.Kids {
			if digitsOf([]int64{kid.At}) == rest[:1] {
				return kid.Name, rest[1:]
			}
		}
	}
	return 0, ""
}

// wayByWords is the bytes of the nodes that are gone through, up to the end or to one that is not there.
func wayByWords(there map[int64]impl.Node, name int64, rest string) [][]byte {
	way := [][]byte{}
	for n, is := there[name]; is; n, is = there[name] {
		way = append(way, bytesOf(n))
		name, rest = downByWords(n, rest)
	}
	return way
}

// shownByWords is what the document's words tell of a proof: what Found tells with just these nodes, where the way through them is the proof.
func shownByWords(root int64, key string, proof [][]byte) (string, int64) {
	there := map[int64]impl.Node{}
	for _, b := range proof {
		if n, is := impl.NodeFrom(b); is {
			there[impl.NameOf(b)] = n
		}
	}
	if !impl.KeyOk(key) || root < 0 || !sameTexts(proof, wayByWords(there, root, key)) {
		return "", fdBad
	}
	value, code := walked(there, root, key)
	if code == fdLost {
		return "", fdBad
	}
	return value, code
}

// mustShow asks Proven for just this answer.
func mustShow(t *testing.T, root int64, key string, proof [][]byte, value string, code int64) {
	t.Helper()
	if v, k := impl.Proven(root, key, proof); v != value || k != code {
		t.Fatalf("Proven(%d, %q, %v) = %q, %d, want %q, %d", root, key, proof, v, k, value, code)
	}
}

// mustShowNothing asks Proven for FdBad and no value.
func mustShowNothing(t *testing.T, root int64, key string, proof [][]byte) {
	t.Helper()
	mustShow(t, root, key, proof, "", fdBad)
}

// mustAnswerProof asks ProofOf for just this answer.
func mustAnswerProof(t *testing.T, cells []impl.Cell, root int64, key string, want [][]byte, code int64) {
	t.Helper()
	if proof, k := impl.ProofOf(cells, root, key); k != code || !sameTexts(proof, want) {
		t.Fatalf("ProofOf(%v, %d, %q) = %v, %d, want %v, %d", cells, root, key, proof, k, want, code)
	}
}

// mustProve asks for a proof of what Found tells: just the nodes of the way, of which Proven tells the same. Where one is not there, that there is no proof, and that the nodes ahead of it are none. The nodes of the way, and the code, are answered.
func mustProve(t *testing.T, cells []impl.Cell, root int64, key string) ([][]byte, int64) {
	t.Helper()
	there := thereIn(cells)
	way := wayByWords(there, root, key)
	value, code := walked(there, root, key)
	mustFind(t, cells, root, key, value, code)
	if code == fdLost {
		mustAnswerProof(t, cells, root, key, nil, fdLost)
		mustShowNothing(t, root, key, way)
		return way, code
	}
	mustAnswerProof(t, cells, root, key, way, code)
	proof, _ := impl.ProofOf(cells, root, key)
	mustShow(t, root, key, proof, value, code)
	mustShow(t, root, key, way, value, code)
	return way, code
}

// mustProveAll asks for each key of the list; how often each code is told is counted.
func mustProveAll(t *testing.T, cells []impl.Cell, root int64, keys []string, told map[int64]int) {
	t.Helper()
	for _, key := range keys {
		_, code := mustProve(t, cells, root, key)
		told[code]++
	}
}

// keysAbout are the keys of the map, and those near them, each once.
func keysAbout(pairs map[string]string) []string {
	keys := []string{"0", "7", "f", "00", "ffffffff"}
	for key := range pairs {
		keys = append(keys, keysNear(key)...)
	}
	slices.Sort(keys)
	return slices.Compact(keys)
}

// changed is the proof with another byte at that place of that node.
func changed(proof [][]byte, node, place int, c byte) [][]byte {
	bent := cloneTexts(proof)
	bent[node][place] = c
	return bent
}

// swapped is the proof with these bytes instead of those of that node: none, one, or more than one.
func swapped(proof [][]byte, node int, instead ...[]byte) [][]byte {
	return slices.Concat(proof[:node], instead, proof[node+1:])
}

// bentNodes are proofs in which each node is left out, named twice, cut, longer, or joined with the next one, or in which two are out of their places; and one more of these is at each place, or instead of each node.
func bentNodes(proof [][]byte, more ...[]byte) [][][]byte {
	more = append(slices.Clone(more), nil, []byte{0}, bytesOf(leafOf("v")), bytesOf(forkOf("v", kidsAt(1)...)))
	list := [][][]byte{slices.Concat(proof, proof)}
	for i, b := range proof {
		list = append(list, swapped(proof, i), swapped(proof, i, b, b), proof[:i], proof[i+1:], slices.Concat(proof, [][]byte{b}), slices.Concat([][]byte{b}, proof))
		list = append(list, swapped(proof, i, b[1:]), swapped(proof, i, b[:len(b)-1]), swapped(proof, i, append(bytes.Clone(b), 0)), swapped(proof, i, append([]byte{b[0]}, b...)))
		list = append(list, swapped(proof, i, append(bytes.Clone(b), b...)), swapped(proof, i, b[:1], b[1:]), swapped(proof, i, b[:len(b)/2], b[len(b)/2:]))
		for k := range i {
			list = append(list, swapped(swapped(proof, i, proof[k]), k, b), swapped(proof, i, b, proof[k]), swapped(proof, k, proof[k], b))
		}
		if i > 0 {
			list = append(list, swapped(swapped(proof, i), i-1, slices.Concat(proof[i-1], b)))
		}
		for _, other := range more {
			list = append(list, swapped(proof, i, other), swapped(proof, i, other, b), swapped(proof, i, b, other))
		}
	}
	for _, other := range more {
		list = append(list, slices.Concat(proof, [][]byte{other}))
	}
	return list
}

// mustNotBend asks that none of these shows anything, but for those that are the proof itself; how many show nothing is answered.
func mustNotBend(t *testing.T, root int64, key string, proof [][]byte, list [][][]byte) int {
	t.Helper()
	count := 0
	for _, bent := range list {
		if !sameTexts(bent, proof) {
			mustShowNothing(t, root, key, bent)
			count++
		}
	}
	return count
}

// otherRoots are roots about that one, and about these names; it is not among them.
func otherRoots(root int64, cells []impl.Cell) []int64 {
	list := []int64{0, 1, -1, root - 1, root + 1, -root, ^root, root | math.MinInt64, root ^ 1<<32, root ^ 1<<31, root & math.MaxUint32, math.MaxInt64, math.MinInt64}
	list = append(list, namesOf(cells)...)
	return slices.DeleteFunc(list, func(other int64) bool { return other == root })
}

// mustShowByWords asks each of these keys of the proof: where its way is the same, what Found tells of it; else nothing. How often each code is told is counted.
func mustShowByWords(t *testing.T, cells []impl.Cell, root int64, proof [][]byte, keys []string, told map[int64]int) {
	t.Helper()
	there := thereIn(cells)
	for _, key := range keys {
		value, code := walked(there, root, key)
		if !impl.KeyOk(key) || code == fdLost || !sameTexts(wayByWords(there, root, key), proof) {
			value, code = "", fdBad
		}
		mustShow(t, root, key, proof, value, code)
		told[code]++
	}
}

// proofMaps are ordinary maps, and those with as many pairs as can be.
func proofMaps() []map[string]string {
	return append(someMaps(), longestPairs(), numberedPairs(maxPairs), map[string]string{"7": "one"}, map[string]string{"12345678": "one"})
}

// P10, by hand: the tree of sampleNodes.
func TestP10ByHand(t *testing.T) {
	nodes := sampleNodes()
	y, z, one, a, top := nodes[0], nodes[1], nodes[2], nodes[3], nodes[4]
	cells, root := cellsOfNodes(nodes...), nameOfNode(top)
	for _, c := range []struct {
		key, value string
		way        []impl.Node
	}{
		{"1a", "x", []impl.Node{top, a, one}}, {"1ab", "y", []impl.Node{top, a, one, y}}, {"2", "z", []impl.Node{top, z}}, {"3", "z", []impl.Node{top, z}},
		{"1", "", []impl.Node{top, a}}, {"1b", "", []impl.Node{top, a}}, {"1b7", "", []impl.Node{top, a}}, {"1a0", "", []impl.Node{top, a, one}}, {"1abc", "", []impl.Node{top, a, one, y}},
		{"1ac", "", []impl.Node{top, a, one}}, {"20", "", []impl.Node{top, z}}, {"0", "", []impl.Node{top}}, {"4", "", []impl.Node{top}}, {"ffffffff", "", []impl.Node{top}},
	} {
		code := int64(fdThere)
		if c.value == "" {
			code = fdNone
		}
		proof := proofBy(c.way...)
		mustAnswerProof(t, cells, root, c.key, proof, code)
		mustShow(t, root, c.key, proof, c.value, code)
		mustShowNothing(t, root, c.key, proof[1:])
		mustShowNothing(t, root, c.key, proof[:len(proof)-1])
		mustShowNothing(t, root, c.key, append(proof, bytesOf(top)))
		mustShowNothing(t, root, c.key, append(proof, bytesOf(y)))
	}
}

// P10: ordinary maps: their keys, those near them, and all of two digits.
func TestP10EachMap(t *testing.T) {
	told := map[int64]int{}
	for _, pairs := range proofMaps() {
		cells, root := treeOf(pairs)
		mustProveAll(t, cells, root, slices.Concat(keysAbout(pairs), keysOver(hexDigits, 2)), told)
		for key, value := range pairs {
			proof, _ := impl.ProofOf(cells, root, key)
			mustShow(t, root, key, proof, value, fdThere)
		}
	}
	if told[fdThere] < 80 || told[fdNone] < 1000 || told[fdLost] > 0 {
		t.Fatalf("the codes are told %v times", told)
	}
}

// P10: drawn maps of each size up to MaxPairs, in the program's own tree: each key, and those near it.
func TestP10DrawnMaps(t *testing.T) {
	r := rand.New(rand.NewSource(101))
	told, lengths := map[int64]int{}, map[int]int{}
	for size := range maxPairs + 1 {
		for range 3 {
			pairs := mapOfSize(r, size)
			cells, root := impl.TreeOf(listOf(pairs))
			keys := keysAbout(pairs)
			for range 20 {
				keys = append(keys, drawnKeyAmong(r, 16))
			}
			mustProveAll(t, cells, root, keys, told)
			for key, value := range pairs {
				proof, code := impl.ProofOf(cells, root, key)
				mustShow(t, root, key, proof, value, fdThere)
				lengths[len(proof)]++
				if code != fdThere {
					t.Fatalf("of %q in %v the code is %d", key, pairs, code)
				}
			}
		}
	}
	if told[fdThere] < 1000 || told[fdNone] < 10000 || lengths[1] == 0 || lengths[2] == 0 || lengths[3] == 0 || lengths[4] == 0 || lengths[5] == 0 {
		t.Fatalf("the codes are told %v times, and ways are so long: %v", told, lengths)
	}
}

// P10: each byte of each node on the way, changed to each other one.
func TestP10EachByteChanged(t *testing.T) {
	for _, pairs := range someMaps() {
		cells, root := treeOf(pairs)
		for _, key := range append(keysIn(cells, root), "1", "1b", "00000", "fffff", "123456", "abcde") {
			proof, _ := mustProve(t, cells, root, key)
			for i, b := range proof {
				for place := range b {
					for c := 1; c < 256; c++ {
						mustShowNothing(t, root, key, changed(proof, i, place, b[place]^byte(c)))
					}
				}
			}
		}
	}
}

// mustNotBendAtAll bends a proof in each way there is, with these nodes among what is one more; how often is answered.
func mustNotBendAtAll(t *testing.T, cells []impl.Cell, root int64, key string, more ...[]byte) int {
	t.Helper()
	proof, _ := mustProve(t, cells, root, key)
	count := mustNotBend(t, root, key, proof, bentNodes(proof, more...))
	for i, b := range proof {
		for place, c := range b {
			for _, other := range []byte{c + 1, c - 1, c ^ 128, 0, 255} {
				if other != c {
					mustShowNothing(t, root, key, changed(proof, i, place, other))
					count++
				}
			}
		}
	}
	for _, other := range otherRoots(root, cells) {
		mustShowNothing(t, other, key, proof)
		count++
	}
	return count
}

// P10: drawn maps of each size up to MaxPairs, and the largest there are: proofs of keys that are there, and of those that are not, bent in each way.
func TestP10BentDraws(t *testing.T) {
	r := rand.New(rand.NewSource(102))
	trees, count := proofMaps(), 0
	for size := range maxPairs + 1 {
		trees = append(trees, mapOfSize(r, size))
	}
	for _, pairs := range trees {
		cells, root := treeOf(pairs)
		keys := keysAbout(pairs)
		for range 3 {
			asked := []string{keys[r.Intn(len(keys))]}
			if there := keysIn(cells, root); len(there) > 0 {
				asked = append(asked, there[r.Intn(len(there))])
			}
			for _, key := range asked {
				more := [][]byte{}
				for range min(5, len(cells)) {
					more = append(more, cells[r.Intn(len(cells))].Bytes)
				}
				count += mustNotBendAtAll(t, cells, root, key, more...)
			}
		}
	}
	if count < 50000 {
		t.Fatalf("only %d proofs are bent", count)
	}
}

// P10: each node of the same tree at each place of the proof, and instead of each of its nodes; those on the way, too.
func TestP10NotOnTheWay(t *testing.T) {
	for _, pairs := range proofMaps() {
		cells, root := treeOf(pairs)
		keys := keysIn(cells, root)
		for _, key := range append(keys[:min(4, len(keys))], "0", keys[0][:1]+"e") {
			proof, _ := mustProve(t, cells, root, key)
			for _, c := range cells {
				for i := range len(proof) + 1 {
					mustShowNothing(t, root, key, slices.Insert(slices.Clone(proof), i, c.Bytes))
				}
				for i, b := range proof {
					if !bytes.Equal(b, c.Bytes) {
						mustShowNothing(t, root, key, swapped(proof, i, c.Bytes))
					}
				}
			}
		}
	}
}

// P10: the nodes of the way in each other order, and all nodes of the tree.
func TestP10OtherOrders(t *testing.T) {
	for _, pairs := range someMaps() {
		cells, root := treeOf(pairs)
		all := [][]byte{}
		for _, c := range cells {
			all = append(all, c.Bytes)
		}
		for _, key := range keysAbout(pairs) {
			proof, _ := mustProve(t, cells, root, key)
			places := "012345678"[:len(proof)]
			if len(proof) < 6 {
				for _, order := range orders(strings.Split(places, "")) {
					bent := [][]byte{}
					for _, place := range order {
						bent = append(bent, proof[place[0]-'0'])
					}
					mustNotBend(t, root, key, proof, [][][]byte{bent})
				}
			}
			mustNotBend(t, root, key, proof, [][][]byte{all, slices.Concat(proof, all), slices.Concat(all, proof)})
		}
	}
}

// P10: another root: those of the other nodes, and what is near it; and the part of the proof that is below is one for the node there, with the rest of the key.
func TestP10OtherRoots(t *testing.T) {
	for _, pairs := range proofMaps() {
		cells, root := treeOf(pairs)
		for _, key := range keysIn(cells, root) {
			proof, _ := mustProve(t, cells, root, key)
			for _, other := range otherRoots(root, cells) {
				mustShowNothing(t, other, key, proof)
			}
			n, _ := impl.NodeAt(cells, root)
			if kid, rest := downByWords(n, key); kid != 0 && rest != "" {
				mustShow(t, kid, rest, proof[1:], pairs[key], fdThere)
				mustShowNothing(t, root, key, proof[1:])
				mustShowNothing(t, root, rest, proof[1:])
				mustShowNothing(t, kid, rest, proof)
				mustShowByWords(t, cells, kid, proof[1:], []string{key, rest + "0", rest[1:]}, map[int64]int{})
			}
		}
	}
}

// P10: another key: of the same way it is told what Found tells, of another one nothing.
func TestP10OtherKeys(t *testing.T) {
	told := map[int64]int{}
	for _, pairs := range proofMaps() {
		cells, root := treeOf(pairs)
		keys := keysAbout(pairs)
		if len(keys) > 120 {
			keys = append(keysIn(cells, root), "0", "00", "05", "1", "11", "ff", "012", "ffffffff", "00500001", "0151525", "10515251")
		}
		for _, key := range keys {
			proof, code := mustProve(t, cells, root, key)
			same := map[int64]int{}
			mustShowByWords(t, cells, root, proof, keys, same)
			if same[code] == 0 {
				t.Fatalf("the way of %q is not among those of %v", key, keys)
			}
			for code, count := range same {
				told[code] += count
			}
		}
	}
	if told[fdThere] < 100 || told[fdNone] < 2000 || told[fdBad] < 10000 {
		t.Fatalf("the codes are told %v times", told)
	}
}

// P10, by hand: each proof, asked for each key: it shows what is of its own way, and nothing else.
func TestP10EachWayAndKey(t *testing.T) {
	nodes := sampleNodes()
	y, z, one, a, top := nodes[0], nodes[1], nodes[2], nodes[3], nodes[4]
	root := nameOfNode(top)
	ways := [][]impl.Node{{top}, {top, z}, {top, a}, {top, a, one}, {top, a, one, y}, {a}, {top, one}, {top, a, y}, {top, a, z}, {top, z, a}, nil}
	for _, c := range []struct {
		key, value string
		way        int
	}{
		{"0", "", 0}, {"4", "", 0}, {"01a", "", 0}, {"ffffffff", "", 0}, {"2", "z", 1}, {"3", "z", 1}, {"20", "", 1}, {"3f", "", 1}, {"22222222", "", 1},
		{"1", "", 2}, {"10", "", 2}, {"1b", "", 2}, {"11a", "", 2}, {"1ba", "", 2}, {"1a", "x", 3}, {"1a0", "", 3}, {"1acb", "", 3}, {"1ab", "y", 4}, {"1ab0", "", 4}, {"1abb", "", 4},
	} {
		for i, way := range ways {
			switch {
			case i != c.way:
				mustShowNothing(t, root, c.key, proofBy(way...))
			case c.value == "":
				mustShow(t, root, c.key, proofBy(way...), "", fdNone)
			default:
				mustShow(t, root, c.key, proofBy(way...), c.value, fdThere)
			}
		}
	}
}

// P10: the empty tree: no node, and nothing is there, whatever the cells are; with a proof that has any, nothing is shown.
func TestP10RootZero(t *testing.T) {
	for _, cells := range someCells() {
		for _, key := range []string{"0", "1a", "1ab", "2", "283", "ffffffff", "00000000"} {
			mustAnswerProof(t, cells, 0, key, nil, fdNone)
			for _, c := range cells {
				mustShowNothing(t, 0, key, [][]byte{c.Bytes})
			}
		}
	}
	for _, key := range keysOver(hexDigits, 2) {
		mustShow(t, 0, key, nil, "", fdNone)
		mustShow(t, 0, key, [][]byte{}, "", fdNone)
		for _, proof := range [][][]byte{{nil}, {{}}, {nil, nil}, {{0}}, {bytesOf(leafOf("v"))}, {bytesOf(leafOf("v", 0)), bytesOf(leafOf("v"))}, make([][]byte, 300)} {
			mustShowNothing(t, 0, key, proof)
		}
	}
}

// P10: a root below 0, also where it is a name but for its sign, with no proof and with one; and the greatest number there is, which is a root like each other one.
func TestP10RootsAtTheEnds(t *testing.T) {
	for _, cells := range someCells() {
		roots := []int64{-1, -2, -1 << 31, -1 << 32, math.MinInt64, math.MinInt64 + 1}
		for _, name := range namesOf(cells) {
			roots = append(roots, -name, ^name, name|math.MinInt64)
		}
		for i, root := range roots {
			for _, key := range []string{"0", "1a", "2", "f"} {
				mustAnswerProof(t, cells, root, key, nil, fdBad)
				mustShowNothing(t, root, key, nil)
				mustShowNothing(t, root, key, [][]byte{nil})
				if i < len(cells) {
					mustShowNothing(t, root, key, [][]byte{cells[i].Bytes})
				}
			}
		}
		for _, root := range []int64{math.MaxInt64, math.MaxInt64 - 1, 1, 2} {
			mustAnswerProof(t, cells, root, "1a", nil, fdLost)
			mustShowNothing(t, root, "1a", nil)
			mustShowNothing(t, root, "1a", [][]byte{nil})
			mustShowNothing(t, root, "1a", proofBy(leafOf("v", 1, 10)))
		}
	}
}

// P10: a key that is not KeyOk, also where something stands at its path, with the proof of that.
func TestP10BadKeys(t *testing.T) {
	end := leafOf("end")
	nine := leafOf("nine", 9)
	far := stemOf(nameOfNode(nine), 1, 2, 3, 4, 5, 6, 7, 8)
	here := forkOf("here", kidAt(1, end))
	cells := cellsOfNodes(end, nine, far, here)
	for _, key := range badKeys() {
		mustShowNothing(t, 0, key, nil)
		for _, way := range [][]impl.Node{{end}, {here}, {here, end}, {far}, {far, nine}} {
			root := nameOfNode(way[0])
			mustAnswerProof(t, cells, root, key, nil, fdBad)
			mustShowNothing(t, root, key, proofBy(way...))
			mustShowNothing(t, root, key, nil)
		}
		for _, cells := range someCells() {
			for _, root := range []int64{0, 5, -5, nameOfNode(sampleNodes()[4])} {
				mustAnswerProof(t, cells, root, key, nil, fdBad)
				mustShowNothing(t, root, key, nil)
			}
		}
	}
	mustShow(t, nameOfNode(far), "12345678", proofBy(far, nine), "", fdNone)
	mustShow(t, nameOfNode(here), "1", proofBy(here, end), "end", fdThere)
}

// mustEndAt asks that the way of the key is just these nodes, and that no way that is shorter or longer by one is shown for one: each node there is, behind it, too.
func mustEndAt(t *testing.T, cells []impl.Cell, key, value string, way ...impl.Node) {
	t.Helper()
	proof, root, code := proofBy(way...), nameOfNode(way[0]), int64(fdThere)
	if value == "" {
		code = fdNone
	}
	mustAnswerProof(t, cells, root, key, proof, code)
	mustShow(t, root, key, proof, value, code)
	mustShowNothing(t, root, key, proof[:len(proof)-1])
	mustShowNothing(t, root, key, append(slices.Clone(proof), nil))
	for _, c := range cells {
		mustShowNothing(t, root, key, append(slices.Clone(proof), c.Bytes))
	}
}

// P10: keys that end in a leaf, within its Path, behind it and beside it: alone, below a stem, and below a fork.
func TestP10EndsAtALeaf(t *testing.T) {
	l, other := leafOf("v", 7, 8), leafOf("other")
	s, f := stemOf(nameOfNode(l), 4, 5), forkOf("here", kidAt(3, l), kidAt(6, other))
	cells := cellsOfNodes(l, other, s, f)
	for rest, value := range map[string]string{"78": "v", "7": "", "": "", "780": "", "788": "", "787878": "", "8": "", "77": "", "778": "", "0": "", "87": ""} {
		if rest != "" {
			mustEndAt(t, cells, rest, value, l)
		}
		mustEndAt(t, cells, "45"+rest, value, s, l)
		mustEndAt(t, cells, "3"+rest, value, f, l)
	}
	mustEndAt(t, cells, "6", "other", f, other)
	mustEndAt(t, cells, "60", "", f, other)
}

// P10: keys that end within a stem's Path, or beside it, and those that go on below it: alone, below a stem, and below a fork.
func TestP10EndsAtAStem(t *testing.T) {
	l := leafOf("v", 9)
	s := stemOf(nameOfNode(l), 1, 2, 3)
	above, f := stemOf(nameOfNode(s), 4, 5), forkOf("here", kidAt(3, s), kidAt(6, l))
	cells := cellsOfNodes(l, s, above, f)
	for _, rest := range []string{"1", "12", "", "0", "2", "11", "124", "13", "1249", "1129", "22", "9", "12012"} {
		if rest != "" {
			mustEndAt(t, cells, rest, "", s)
		}
		mustEndAt(t, cells, "45"+rest, "", above, s)
		mustEndAt(t, cells, "3"+rest, "", f, s)
	}
	for rest, value := range map[string]string{"123": "", "1239": "v", "12399": "", "1230": "", "12391": ""} {
		mustEndAt(t, cells, rest, value, s, l)
		mustEndAt(t, cells, "45"+rest, value, above, s, l)
		mustEndAt(t, cells, "3"+rest, value, f, s, l)
	}
}

// P10: keys that end at a fork, with a value and with none, those at each number where there is no Kid, and those at each where there is one: below a stem, and below a fork.
func TestP10EndsAtAFork(t *testing.T) {
	l := leafOf("v")
	for _, value := range []string{"", "here"} {
		for _, ats := range [][]int64{{0, 15}, {7, 8}, {0, 1, 2, 3, 4, 5, 6, 7, 9, 10, 11, 12, 13, 14, 15}, upTo(16)} {
			f := forkOf(value)
			for _, at := range ats {
				f.Kids = append(f.Kids, kidAt(at, l))
			}
			s, above := stemOf(nameOfNode(f), 4, 5), forkOf("up", kidAt(3, f), kidAt(6, l))
			cells := cellsOfNodes(l, f, s, above)
			mustEndAt(t, cells, "45", value, s, f)
			mustEndAt(t, cells, "3", value, above, f)
			for at := range int64(16) {
				digit := digitsOf([]int64{at})
				if slices.Contains(ats, at) {
					mustEndAt(t, cells, digit, "v", f, l)
					mustEndAt(t, cells, "45"+digit, "v", s, f, l)
					mustEndAt(t, cells, "3"+digit+"0", "", above, f, l)
				} else {
					mustEndAt(t, cells, digit, "", f)
					mustEndAt(t, cells, "45"+digit, "", s, f)
					mustEndAt(t, cells, "3"+digit+"0", "", above, f)
				}
			}
		}
	}
}

// P10: ways of each length up to the longest, fork by fork and stem by stem, in maps and in trees of no map.
func TestP10LongestWays(t *testing.T) {
	long := "5a5a5a5a"
	pairs := map[string]string{}
	for size := 1; size <= 8; size++ {
		pairs[long[:size]] = fmt.Sprint("v", size)
	}
	cells, root := impl.TreeOf(listOf(pairs)) // a stem, seven forks and a leaf
	for size := 1; size <= 8; size++ {
		if way, _ := mustProve(t, cells, root, long[:size]); len(way) != size+1 {
			t.Fatalf("the way of %q has %d nodes", long[:size], len(way))
		}
		mustNotBendAtAll(t, cells, root, long[:size])
		mustNotBendAtAll(t, cells, root, long[:size-1]+"6")
	}
	for _, end := range []impl.Node{leafOf("end"), forkOf("end", kidsAt(5)...), stemOf(5, 1), leafOf("end", 1), forkOf("", kidsAt(5, 10)...)} {
		want := end.Value
		if len(end.Path) > 0 {
			want = ""
		}
		stems, forks := []impl.Node{end}, []impl.Node{end}
		for i := 7; i >= 0; i-- {
			at := worths(long[i : i+1])[0]
			stems = append([]impl.Node{stemOf(nameOfNode(stems[0]), at)}, stems...)
			forks = append([]impl.Node{forkOf("up", kidAt(at, forks[0]))}, forks...)
			mustEndAt(t, cellsOfNodes(stems...), long[i:], want, stems...)
			mustEndAt(t, cellsOfNodes(forks...), long[i:], want, forks...)
		}
		if len(stems) != mostOnTheWay || len(forks) != mostOnTheWay {
			t.Fatalf("the ways have %d and %d nodes", len(stems), len(forks))
		}
		mustNotBendAtAll(t, cellsOfNodes(stems...), nameOfNode(stems[0]), long)
		mustNotBendAtAll(t, cellsOfNodes(forks...), nameOfNode(forks[0]), long)
	}
}

// P10: ways of one node.
func TestP10OneNode(t *testing.T) {
	mustNotBendAtAll(t, cellsOfNodes(leafOf("v", 1, 2)), nameOfNode(leafOf("v", 1, 2)), "12")
	mustNotBendAtAll(t, cellsOfNodes(leafOf("v", 1, 2)), nameOfNode(leafOf("v", 1, 2)), "1")
	for _, n := range rightNodes() {
		cells, root := cellsOfNodes(n), nameOfNode(n)
		for _, key := range append(keysOver("03f", 2), "b", "fb", "12345678", "ffffffff") {
			way, code := mustProve(t, cells, root, key)
			if len(way) != 1 {
				t.Fatalf("the way of %q in %v is %v", key, n, way)
			}
			if code != fdLost {
				mustNotBendAtAll(t, cells, root, key)
			}
		}
	}
}

// P10: a node that is not there, each one of the tree, the root too: no proof of the keys whose way goes there, and of each other one the same proof as ahead.
func TestP10OneNodeGone(t *testing.T) {
	told := map[int64]int{}
	for _, pairs := range proofMaps() {
		cells, root := treeOf(pairs)
		for _, c := range cells {
			less, _ := impl.Without(cells, c.Name)
			for _, key := range append(keysIn(cells, root), "0", "1", "00", "1f", "ffffffff") {
				way, code := mustProve(t, cells, root, key)
				lost := slices.ContainsFunc(way, func(b []byte) bool { return bytes.Equal(b, c.Bytes) })
				if lost {
					mustAnswerProof(t, less, root, key, nil, fdLost)
				} else {
					mustAnswerProof(t, less, root, key, way, code)
				}
				_, code = mustProve(t, less, root, key)
				told[code]++
				if lost != (code == fdLost) {
					t.Fatalf("%q has the code %d, without %v", key, code, c)
				}
			}
			mustAnswerProof(t, less, c.Name, "1a", nil, fdLost)
		}
	}
	if told[fdThere] < 1000 || told[fdNone] < 200 || told[fdLost] < 300 {
		t.Fatalf("the codes are told %v times", told)
	}
}

// P10: a Kid that is not there, where the way goes there, and where it ends ahead of it.
func TestP10LostKids(t *testing.T) {
	end := leafOf("end")
	s := stemOf(5, 1, 2)
	f := forkOf("here", impl.Kid{At: 3, Name: 6}, kidAt(4, end), kidAt(9, s))
	cells := cellsOfNodes(end, s, f)
	for key, code := range map[string]int64{
		"3": fdLost, "30": fdLost, "3fffffff": fdLost, "912": fdLost, "9120": fdLost, "9": fdNone, "91": fdNone, "913": fdNone, "92": fdNone, "4": fdThere, "40": fdNone, "0": fdNone,
	} {
		if _, got := mustProve(t, cells, nameOfNode(f), key); got != code {
			t.Fatalf("%q has the code %d, want %d", key, got, code)
		}
	}
	mustShowNothing(t, nameOfNode(f), "3", proofBy(f))
	mustShowNothing(t, nameOfNode(f), "3", proofBy(f, end))
	mustShowNothing(t, nameOfNode(f), "912", proofBy(f, s))
	mustShowNothing(t, nameOfNode(f), "912", proofBy(f, s, end))
}

// P10: cells that are not CellsOk, also where the bad one is not on the way; what was proven of the right ones stays proven.
func TestP10BadCells(t *testing.T) {
	root := nameOfNode(sampleNodes()[4])
	for _, cells := range badCells() {
		for _, name := range []int64{root, 0, 5, -5, math.MaxInt64, math.MinInt64} {
			for _, key := range []string{"1a", "1ab", "2", "0", "", "1A", "123456789"} {
				mustAnswerProof(t, cells, name, key, nil, fdBad)
			}
		}
	}
	proof, _ := mustProve(t, cellsOfNodes(sampleNodes()...), root, "1ab")
	mustShow(t, root, "1ab", proof, "y", fdThere)
}

// P10: MaxCells cells, and one more that is never asked for; a proof has nothing of the others.
func TestP10OtherCells(t *testing.T) {
	nodes := sampleNodes()
	root := nameOfNode(nodes[4])
	own := cellsOfNodes(nodes...)
	others, top := planted(numberedPairs(20))
	for _, cells := range [][]impl.Cell{
		cellsOfNodes(append(numberedLeaves(maxCells-5), nodes...)...), joined(own, others...), joined(own, selfNamed(), selfForked(), forkOf("lost", impl.Kid{At: 1, Name: 7})),
	} {
		for _, key := range keysOver("0123ab", 3) {
			want, code := mustProve(t, own, root, key)
			mustAnswerProof(t, cells, root, key, want, code)
		}
	}
	mustAnswerProof(t, cellsOfNodes(append(numberedLeaves(maxCells-4), nodes...)...), root, "1ab", nil, fdBad)
	cells := joined(own, others...)
	for _, key := range []string{"00", "01", "1a", "2", "3", "13"} {
		first, _ := mustProve(t, cells, root, key)
		second, _ := mustProve(t, cells, top, key)
		mustShowNothing(t, top, key, first)
		mustShowNothing(t, root, key, second)
	}
}

// noNodes are bytes that are no node's, most of them nearly those of this one: none, one too few or too many, and those of nodes that are not NodeOk.
func noNodes(n impl.Node) [][]byte {
	b := bytesOf(n)
	list := [][]byte{nil, {}, {0}, {1}, {1, 0}, {1, 0, 0, 0}, make([]byte, 300), b[:len(b)-1], b[1:], append(bytes.Clone(b), 0), append([]byte{0}, b...), append(bytes.Clone(b), b...)}
	for size := range b {
		list = append(list, b[:size])
	}
	for _, bad := range badNodes() {
		list = append(list, bytesOf(bad))
	}
	return append(list, bytesOf(impl.Node{Kind: 1, Path: n.Path, Value: "A"}), bytesOf(impl.Node{Kind: 3, Path: []int64{1}, Value: "a", Kids: kidsAt(1, 2)}), bytesOf(impl.Node{Kind: 2, Value: "v", Path: n.Path}))
}

// P10: a proof with bytes that are no node's, though they have the name that is asked for: as the root, below a stem, and below a fork.
func TestP10NoNodes(t *testing.T) {
	for _, n := range append(sampleNodes(), leafOf("v", 1), stemOf(5, 1), leafOf("abcdefghij09", 1, 2, 3, 4, 5, 6, 7, 8)) {
		for _, b := range noNodes(n) {
			name := impl.NameOf(b)
			s, f := stemOf(name, 7), forkOf("here", impl.Kid{At: 7, Name: name})
			for _, key := range []string{"1", "0", "a", "1a", "b", "12345678"} {
				mustShowNothing(t, name, key, [][]byte{b})
				mustShowNothing(t, name, key, [][]byte{b, bytesOf(leafOf("y"))})
				mustShowNothing(t, name, key, [][]byte{b, b})
				mustShowNothing(t, nameOfNode(s), "7"+key[1:], [][]byte{bytesOf(s), b})
				mustShowNothing(t, nameOfNode(f), "7"+key[1:], [][]byte{bytesOf(f), b})
				mustShow(t, nameOfNode(f), "8"+key[1:], proofBy(f), "", fdNone)
				mustShowNothing(t, nameOfNode(f), "8"+key[1:], [][]byte{bytesOf(f), b})
				mustShowNothing(t, nameOfNode(n), key, [][]byte{b})
			}
		}
	}
}

// P10: a right node that has another name than the one that is asked for, though all that is read of it is alike.
func TestP10OtherNames(t *testing.T) {
	for _, value := range []string{"v", "w"} {
		l := leafOf(value)
		for _, name := range []int64{nameOfNode(l) + 1, nameOfNode(l) - 1, nameOfNode(leafOf("x")), 1, math.MaxInt64} {
			s, f := stemOf(name, 7), forkOf("here", impl.Kid{At: 7, Name: name})
			mustShowNothing(t, nameOfNode(s), "7", proofBy(s, l))
			mustShowNothing(t, nameOfNode(f), "7", proofBy(f, l))
			mustShowNothing(t, name, "7", proofBy(leafOf(value, 7)))
		}
		s := stemOf(nameOfNode(l), 7)
		mustShow(t, nameOfNode(s), "7", proofBy(s, l), value, fdThere)
	}
}

// P10: a proof that goes on behind its end, with the Kids of its last node, too: behind a leaf, behind a fork whose value it is, and where nothing is there.
func TestP10GoesOn(t *testing.T) {
	nodes := sampleNodes()
	y, z, one, a, top := nodes[0], nodes[1], nodes[2], nodes[3], nodes[4]
	root := nameOfNode(top)
	for _, c := range []struct {
		key string
		way []impl.Node
	}{
		{"1ab", []impl.Node{top, a, one, y}}, {"2", []impl.Node{top, z}}, {"1a", []impl.Node{top, a, one}},
		{"0", []impl.Node{top}}, {"1", []impl.Node{top, a}}, {"1b", []impl.Node{top, a}}, {"1ac", []impl.Node{top, a, one}}, {"20", []impl.Node{top, z}}, {"1ab0", []impl.Node{top, a, one, y}},
	} {
		proof := proofBy(c.way...)
		if _, code := impl.Proven(root, c.key, proof); code == fdBad {
			t.Fatalf("%v is no proof for %q", c.way, c.key)
		}
		for _, behind := range [][]impl.Node{nodes, {y}, {z}, {one}, {a}, {top}, {one, y}, {a, one}, {a, one, y}, c.way, {leafOf("else")}, numberedLeaves(300)} {
			mustShowNothing(t, root, c.key, append(slices.Clone(proof), proofBy(behind...)...))
		}
		for count := 1; count < 20; count++ {
			mustShowNothing(t, root, c.key, append(slices.Clone(proof), make([][]byte, count)...))
		}
	}
}

// P10: an empty proof of a root that is not 0.
func TestP10EmptyProof(t *testing.T) {
	for _, root := range []int64{1, 2, 1 << 31, 1 << 32, math.MaxInt64, nameOfNode(leafOf("v", 1)), impl.NameOf(nil), impl.NameOf([]byte{0})} {
		for _, key := range []string{"0", "1", "1a", "ffffffff"} {
			for _, proof := range [][][]byte{nil, {}, {nil}, {{}}, {nil, nil}} {
				mustShowNothing(t, root, key, proof)
			}
		}
	}
}

// P10: a proof of very many nodes, and of very many bytes: nothing is shown, and soon.
func TestP10VeryMany(t *testing.T) {
	nodes := sampleNodes()
	f, root := selfForked(), nameOfNode(nodes[4])
	there := thereIn(joined(cellsOfNodes(nodes...), f))
	much := make([]byte, 1<<20)
	for _, c := range []struct {
		root int64
		key  string
	}{{root, "1ab"}, {root, "0"}, {root, "2"}, {nameOfNode(f), "aaaaaaaa"}, {nameOfNode(f), "b"}, {0, "1"}} {
		proof := wayByWords(there, c.root, c.key)
		for _, b := range [][]byte{nil, bytesOf(f), bytesOf(nodes[4]), much} {
			many := slices.Repeat([][]byte{b}, 200000)
			mustShowNothing(t, c.root, c.key, append(slices.Clone(proof), many...))
			mustShowNothing(t, c.root, c.key, append(slices.Clone(many), proof...))
			mustShowNothing(t, c.root, c.key, append(slices.Clone(many), b))
		}
		mustShowNothing(t, c.root, c.key, append(slices.Clone(proof), much))
		mustShowNothing(t, c.root, c.key, append([][]byte{much}, proof...))
		value, code := walked(there, c.root, c.key)
		mustShow(t, c.root, c.key, proof, value, code)
	}
	mustShowNothing(t, impl.NameOf(much), "1", [][]byte{much})
	long := append(bytesOf(nodes[4]), much...)
	mustShowNothing(t, impl.NameOf(long), "0", [][]byte{long})
}

// P10: nodes that are reached from themselves: each is in the proof as often as it is gone through, no less and no more.
func TestP10ReachedFromItself(t *testing.T) {
	s, f := selfNamed(), selfForked()
	above := forkOf("above", kidAt(2, s), kidAt(10, f))
	cells := cellsOfNodes(s, f, selfForkedWidely(), selfForkedAhead(), leafOf("v"), above)
	for size := 1; size <= 8; size++ {
		key := strings.Repeat("a", size)
		for _, way := range [][]impl.Node{slices.Repeat([]impl.Node{f}, size+1), append([]impl.Node{above}, slices.Repeat([]impl.Node{f}, size)...)} {
			root, proof := nameOfNode(way[0]), proofBy(way...)
			mustAnswerProof(t, cells, root, key, proof, fdThere)
			mustShow(t, root, key, proof, f.Value, fdThere)
			mustShowNothing(t, root, key, proof[1:])
			mustShowNothing(t, root, key, append(slices.Clone(proof), bytesOf(f)))
			if size > 1 {
				mustShow(t, root, key[1:]+"b", proof[:size], "", fdNone)
				mustShow(t, root, key[1:], proof[:size], f.Value, fdThere)
			}
		}
	}
	for key, count := range map[string]int{"2": 1, "28": 1, "283": 2, "2832": 2, "283283": 3, "28328": 2, "28328328": 3, "283283f": 3, "3": 1, "28428328": 1} {
		proof := slices.Repeat(proofBy(s), count)
		mustAnswerProof(t, cells, nameOfNode(s), key, proof, fdNone)
		mustShow(t, nameOfNode(s), key, proof, "", fdNone)
		mustShowNothing(t, nameOfNode(s), key, proof[1:])
		mustShowNothing(t, nameOfNode(s), key, append(proof, bytesOf(s)))
	}
	told := map[int64]int{}
	for _, name := range namesOf(cells) {
		mustProveAll(t, cells, name, append(keysOver("01238af", 3), "aaaaaaaa", "0fffffff", "00000001", "0000000f", "22222222", "2832832f"), told)
	}
	if told[fdThere] < 15 || told[fdNone] < 500 || told[fdLost] > 0 {
		t.Fatalf("the codes are told %v times", told)
	}
}

// P10: more ways than can be gone: of each just its own nodes.
func TestP10ManyWays(t *testing.T) {
	nodes := manyWays()
	cells := cellsOfNodes(nodes...)
	for i, n := range nodes {
		for _, key := range []string{"0", "f", "07", "12345678", "fedcba98"} {
			way, code := mustProve(t, cells, nameOfNode(n), key)
			if len(way) != min(i, len(key))+1 || (code == fdThere) != (i == len(key)) {
				t.Fatalf("%d forks above the leaf the way of %q has %d nodes, and the code %d", i, key, len(way), code)
			}
		}
	}
}

// P10: once a value is put or dropped: what was proven of the old root still is, and shows nothing of the new one, but where the way is the same.
func TestP10OtherTimes(t *testing.T) {
	r := rand.New(rand.NewSource(103))
	for _, pairs := range append(someMaps(), mapOfSize(r, 10), mapOfSize(r, 15)) {
		cells, root := treeOf(pairs)
		for key, value := range pairs {
			old, _ := mustProve(t, cells, root, key)
			mustShow(t, root, key, old, value, fdThere)
			after, top, _ := impl.PutIn(cells, root, key, "other")
			less, low, _ := impl.DropIn(after, root, key)
			put, _ := mustProve(t, after, top, key)
			dropped, _ := mustProve(t, less, low, key)
			mustShow(t, top, key, put, "other", fdThere)
			mustShow(t, low, key, dropped, "", fdNone)
			mustShow(t, root, key, old, value, fdThere)
			for _, c := range []struct {
				root   int64
				proofs [][][]byte
			}{{root, [][][]byte{put, dropped}}, {top, [][][]byte{old, dropped}}, {low, [][][]byte{old, put}}} {
				for _, proof := range c.proofs {
					mustShowNothing(t, c.root, key, proof)
				}
			}
		}
	}
}

// P10: two nodes with one name, which no two that are asked for have: each is the node under that name.
func TestP10Namesakes(t *testing.T) {
	one, two := namesakes()
	for _, n := range []impl.Node{one, two} {
		mustAnswerProof(t, cellsOfNodes(n), nameOfNode(one), "2", proofBy(n), fdNone)
		mustShow(t, nameOfNode(one), "2", proofBy(n), "", fdNone)
		mustShowNothing(t, nameOfNode(one), "2", proofBy(one, two))
	}
}

// P10: what is wrong with an argument goes ahead of what is not there, however many are wrong.
func TestP10WrongInTwoWays(t *testing.T) {
	nodes := sampleNodes()
	right, root := cellsOfNodes(nodes...), nameOfNode(nodes[4])
	bent := cloneCells(right)
	bent[0].Name++
	lost, _ := impl.Without(right, nameOfNode(nodes[0]))
	for _, c := range []struct {
		cells []impl.Cell
		root  int64
		key   string
	}{
		{bent, 0, "1a"}, {bent, 5, "1a"}, {bent, -1, "1a"}, {bent, root, "4"}, {bent, root, ""}, {bent, -1, ""}, {bent, 0, "1A"},
		{right, 0, ""}, {right, 0, "1A"}, {right, 5, "1A"}, {right, 5, "123456789"}, {right, -1, "4"}, {right, -1, "1A"}, {right, -1, ""},
		{nil, 0, ""}, {nil, 5, "g"}, {nil, -1, "1"}, {nil, -1, "g"}, {lost, root, "1abg"}, {lost, root, "1abA"}, {lost, root, "1ab000000"}, {lost, -1, "1ab"},
	} {
		mustAnswerProof(t, c.cells, c.root, c.key, nil, fdBad)
		if c.root != root {
			mustShowNothing(t, c.root, c.key, proofBy(nodes[4]))
		}
	}
	mustAnswerProof(t, lost, root, "1ab", nil, fdLost)
	mustAnswerProof(t, lost, 0, "1ab", nil, fdNone)
	mustShowNothing(t, -root, "1A", proofBy(nodes[4], nodes[3], nodes[2], nodes[2]))
}

// P10: of drawn nodes in any shape, some of which are not there, the proof is what the document's words tell, and so is what it shows.
func TestP10DrawnNodes(t *testing.T) {
	r := rand.New(rand.NewSource(104))
	told := map[int64]int{}
	for range 250 {
		cells, roots := drawnGaps(r)
		for _, root := range roots {
			key := drawnKeyAmong(r, 3)
			if there := keysIn(cells, root); len(there) > 0 && r.Intn(3) == 0 {
				key = there[r.Intn(len(there))]
			}
			way, code := mustProve(t, cells, root, key)
			told[code]++
			if len(way) > mostOnTheWay {
				t.Fatalf("the way of %q has %d nodes", key, len(way))
			}
			if code != fdLost {
				mustNotBend(t, root, key, way, bentNodes(way, cells[r.Intn(len(cells))].Bytes))
			}
		}
	}
	if told[fdThere] < 500 || told[fdNone] < 1000 || told[fdLost] < 500 {
		t.Fatalf("the codes are told %v times", told)
	}
}

// drawnProof is mostly that of a key, often bent a little; else nodes of the cells, or any bytes. The root and the key it is asked with come with it, often those it is for.
func drawnProof(r *rand.Rand, cells []impl.Cell, root int64, key string) (int64, string, [][]byte) {
	proof := wayByWords(thereIn(cells), root, key)
	if r.Intn(8) == 0 {
		proof = nil
	}
	for range max(0, r.Intn(5)-2) {
		b := drawnBytes(r, 30)
		if len(cells) > 0 && r.Intn(4) > 0 {
			b = cells[r.Intn(len(cells))].Bytes
		}
		place := r.Intn(len(proof) + 1)
		if place < len(proof) && r.Intn(2) == 0 {
			proof = slices.Delete(proof, place, place+1)
		} else {
			proof = slices.Insert(proof, place, b)
		}
	}
	switch r.Intn(10) {
	case 0:
		root = r.Int63()>>r.Intn(64) - r.Int63()>>r.Intn(64)
	case 1:
		key = string(drawnBytes(r, 10))
	case 2, 3:
		key = drawnKeyAmong(r, 3)
	}
	return root, key, proof
}

// P19: whatever the arguments are, there is an answer, and it is what the document's words tell.
func TestP19ProofsAnswerAlways(t *testing.T) {
	r := rand.New(rand.NewSource(105))
	pools := gatherPools()
	for range 30 {
		cells, _ := drawnGaps(r)
		pools = append(pools, cells)
	}
	told, shown := map[int64]int{}, map[int64]int{}
	for range 8000 {
		cells, root := drawnCells(r, pools)
		key := drawnKeyAmong(r, 1+r.Intn(4))
		if there := keysIn(cells, root); len(there) > 0 && r.Intn(2) == 0 {
			key = there[r.Intn(len(there))]
		}
		if r.Intn(10) == 0 {
			key = string(drawnBytes(r, 10))
		}
		if !impl.CellsOk(cells) || !impl.KeyOk(key) || root < 0 {
			mustAnswerProof(t, cells, root, key, nil, fdBad)
			told[fdBad]++
			cells = nil
		} else {
			_, code := mustProve(t, cells, root, key)
			told[code]++
		}
		root, key, proof := drawnProof(r, cells, root, key)
		value, code := shownByWords(root, key, proof)
		mustShow(t, root, key, proof, value, code)
		shown[code]++
	}
	if told[fdThere] < 500 || told[fdNone] < 800 || told[fdLost] < 800 || told[fdBad] < 1000 {
		t.Fatalf("the codes of ProofOf are told %v times", told)
	}
	if shown[fdThere] < 150 || shown[fdNone] < 350 || shown[fdBad] < 1000 || shown[fdLost] > 0 {
		t.Fatalf("the codes of Proven are told %v times", shown)
	}
}

// proofCalls are cells, roots and keys with which ProofOf tells each code.
func proofCalls() ([][]impl.Cell, []int64, []string) {
	lists, roots := gatherCells()
	return lists, roots, []string{"1a", "1ab", "a", "2", "4", "283283", "aaaaaaaa", "0ff", "", "1A", "123456789"}
}

// P19: the cells stay, and so does the spare room behind them; no answer depends on that room.
func TestP19ProofOfLeavesItsArguments(t *testing.T) {
	lists, roots, keys := proofCalls()
	told := map[int64]int{}
	for _, cells := range lists {
		for _, root := range roots {
			for _, key := range keys {
				want, code := impl.ProofOf(cloneCells(cells), root, key)
				told[code]++
				mustLeave(t, cells, func(arg []impl.Cell) {
					mustAnswerProof(t, arg, root, key, want, code)
				})
			}
		}
	}
	for code := range int64(fdBad + 1) {
		if told[code] < 10 {
			t.Fatalf("the codes are told %v times", told)
		}
	}
}

// P19: the proof stays, and each of its slices, and so does the spare room behind them; no answer depends on that room, also where what is missing lies there.
func TestP19ProvenLeavesItsArguments(t *testing.T) {
	told := map[int64]int{}
	for _, pairs := range someMaps() {
		cells, root := treeOf(pairs)
		for _, key := range append(keysIn(cells, root), "0", "1b", "1a1", "00001") {
			proof, _ := mustProve(t, cells, root, key)
			for _, arg := range append(bentNodes(proof, cells[0].Bytes), proof) {
				value, code := shownByWords(root, key, arg)
				told[code]++
				texts.mustLeave(t, arg, proof, func(arg [][]byte) { mustShow(t, root, key, arg, value, code) })
			}
			for i := range len(proof) + 1 {
				value, code := shownByWords(root, key, proof[:i])
				texts.mustLeave(t, proof[:i], proof[i:], func(arg [][]byte) { mustShow(t, root, key, arg, value, code) })
			}
			texts.mustLeave(t, proof, proof, func(arg [][]byte) {
				mustShowNothing(t, -1, key, arg)
				mustShowNothing(t, 0, key, arg)
				mustShowNothing(t, root, "", arg)
			})
			for i, b := range proof {
				cut := slices.Clone(proof)
				cut[i] = slices.Clip(b)[:len(b)-1] // just the byte that is missing lies behind it
				mustShowNothing(t, root, key, cut)
			}
		}
	}
	if told[fdThere] < 20 || told[fdNone] < 20 || told[fdBad] < 1000 {
		t.Fatalf("the codes are told %v times", told)
	}
}

// P19: the proof that is answered is new memory, each of its slices by itself, also where one node is in it more than once.
func TestP19ProofsAreNewMemory(t *testing.T) {
	lists, roots, keys := proofCalls()
	for _, cells := range lists {
		for _, root := range roots {
			for _, key := range keys {
				arg := cloneCells(cells)
				texts.mustBeNew(t, func() [][]byte {
					proof, _ := impl.ProofOf(arg, root, key)
					return proof
				})
				if !sameCells(arg, cells) {
					t.Fatalf("the proof of %q shares memory with the cells %v", key, cells)
				}
				proof, _ := impl.ProofOf(arg, root, key)
				want := cloneTexts(proof)
				spoilCells(arg)
				if !sameTexts(proof, want) {
					t.Fatalf("the proof %v is %v once the cells are written into", want, proof)
				}
			}
		}
	}
}

// P19: a value that is shown shares no memory with the proof, and what is shown depends on no other call.
func TestP19ShownValuesAreNewMemory(t *testing.T) {
	for _, pairs := range proofMaps() {
		cells, root := treeOf(pairs)
		for key, value := range pairs {
			proof, _ := impl.ProofOf(cells, root, key)
			arg := cloneTexts(proof)
			shown, _ := impl.Proven(root, key, arg)
			spoilTexts(arg)
			if shown != value {
				t.Fatalf("%q is %q once the proof is written into", value, shown)
			}
			mustShow(t, root, key, proof, value, fdThere)
		}
	}
}
