package tests

import (
	"math"
	"math/rand"
	"slices"
	"strings"
	"testing"

	"loop.example/g00754/impl"
)

// aheadByWords is the document's order of texts: byte by byte, and a text that begins another one is ahead of it.
func aheadByWords(a, b string) bool {
	for i := range len(b) {
		if i == len(a) || a[i] < b[i] {
			return true
		}
		if a[i] > b[i] {
			return false
		}
	}
	return false
}

// betweenByWords is what lies between in a map.
func betweenByWords(pairs map[string]string, from, to string, most int64) []impl.Pair {
	list := slices.DeleteFunc(listOf(pairs), func(pair impl.Pair) bool {
		return aheadByWords(pair.Key, from) || to != "" && !aheadByWords(pair.Key, to)
	})
	return list[:min(int64(len(list)), most)]
}

// mustScan asks for just what lies between in this map, and true.
func mustScan(t *testing.T, cells []impl.Cell, root int64, pairs map[string]string, from, to string, most int64) {
	t.Helper()
	want := betweenByWords(pairs, from, to, most)
	if list, is := impl.Between(cells, root, from, to, most); !is || !slices.Equal(list, want) {
		t.Fatalf("Between(%v, %d, %q, %q, %d) = %v, %v, want %v, true", cells, root, from, to, most, list, is, want)
	}
}

// mustNotScan asks for nothing and false.
func mustNotScan(t *testing.T, cells []impl.Cell, root int64, from, to string, most int64) {
	t.Helper()
	if list, is := impl.Between(cells, root, from, to, most); is || len(list) != 0 {
		t.Fatalf("Between(%v, %d, %q, %q, %d) = %v, %v, want nothing, false", cells, root, from, to, most, list, is)
	}
}

// outOfRange are numbers that most can't be, many of which are in range once they are cut to fewer bits.
func outOfRange() []int64 {
	list := []int64{-1, -2, -26, -27, maxPairs + 1, maxPairs + 2, 80, 1 << 8, 1<<8 + 5, 1 << 16, 1<<16 + 5, 1 << 31, 1 << 32, 1<<32 + 5, -1 << 32, -1<<32 + 5, -1 << 8, -1<<16 + 5}
	return append(list, math.MaxInt32, math.MinInt32, math.MaxInt64, math.MaxInt64-1, math.MinInt64, math.MinInt64+1, math.MinInt64+5)
}

// noKeys are texts that are no key, from which and to which a scan goes all the same.
func noKeys() []string {
	return append(badKeys(), "!", "/", ":", "@", "G", "`", "~", "z", "\x00\x00", "\xff\xff", "0\x00", "0g", "9:", "9a\x00", "aG", "a`", "f\xff", "ffffffff0", "fffffffff", "ffffffffg", "000000000", "00000000\x00")
}

// boundsNear are texts about the key: itself, what it begins with, what goes on behind it, and those just ahead of it and behind it.
func boundsNear(key string) []string {
	last := len(key) - 1
	near := []string{
		key, key[:last], key + "\x00", key + "0", key + "00000000", key + "f", key + "g", key + "\xff", strings.ToUpper(key), "0" + key, key + key,
		key[:last] + string(key[last]-1), key[:last] + string(key[last]+1), key[:last] + string(key[last]-1) + "\xff", key[:last] + "\x00", key[:last] + "z",
	}
	return append(near, key[:1], key[:len(key)/2])
}

// boundsOf are texts about all keys of the map, and some others.
func boundsOf(pairs map[string]string) []string {
	texts := []string{"", "0", "9", "a", "ffffffff"}
	for key := range pairs {
		texts = append(texts, boundsNear(key)...)
	}
	slices.Sort(texts)
	return slices.Compact(texts)
}

// treeOf is cells with the tree of the map, made by hand and not by the program, and its root.
func treeOf(pairs map[string]string) ([]impl.Cell, int64) {
	nodes, root := planted(pairs)
	return cellsOfNodes(nodes...), root
}

// mapOfSize is a drawn map of just that many pairs.
func mapOfSize(r *rand.Rand, size int) map[string]string {
	pairs := map[string]string{}
	digits := 3 + r.Intn(14)
	for len(pairs) < size {
		key := drawnKeyAmong(r, digits)
		pairs[key] = string(valueLetters[r.Intn(36)]) + key
	}
	return pairs
}

// P9, by hand: the tree of sampleNodes.
func TestP9ByHand(t *testing.T) {
	nodes := sampleNodes()
	cells, root := cellsOfNodes(nodes...), nameOfNode(nodes[4])
	for _, c := range []struct {
		from, to string
		most     int64
		want     string
	}{
		{"", "", 26, "1a=x 1ab=y 2=z 3=z "}, {"", "", 4, "1a=x 1ab=y 2=z 3=z "}, {"", "", 3, "1a=x 1ab=y 2=z "}, {"", "", 1, "1a=x "}, {"", "", 0, ""},
		{"1a", "", 26, "1a=x 1ab=y 2=z 3=z "}, {"1a0", "", 26, "1ab=y 2=z 3=z "}, {"1ab", "", 26, "1ab=y 2=z 3=z "}, {"1ab0", "", 2, "2=z 3=z "},
		{"1a\x00", "2\x00", 26, "1ab=y 2=z "}, {"1b", "", 1, "2=z "}, {"3", "", 26, "3=z "}, {"30", "", 26, ""}, {"4", "", 26, ""}, {"3\x00", "", 1, ""},
		{"", "1a", 26, ""}, {"", "1a0", 26, "1a=x "}, {"", "1ab", 26, "1a=x "}, {"", "1", 26, ""}, {"", "2", 26, "1a=x 1ab=y "}, {"", "3", 2, "1a=x 1ab=y "},
		{"", "4", 26, "1a=x 1ab=y 2=z 3=z "}, {"", "4", 3, "1a=x 1ab=y 2=z "}, {"1a", "3", 26, "1a=x 1ab=y 2=z "}, {"1a", "1ab", 26, "1a=x "},
		{"1ab", "2", 26, "1ab=y "}, {"2", "2", 26, ""}, {"2", "20", 26, "2=z "}, {"3", "1", 26, ""}, {"2", "1ab", 26, ""}, {"1A", "1B", 26, ""}, {"1", "1A", 26, ""},
		{"1A", "", 26, "1a=x 1ab=y 2=z 3=z "}, {"!", "~", 26, "1a=x 1ab=y 2=z 3=z "}, {"~", "", 26, ""}, {"~", "!", 26, ""}, {"1aaaaaaaaaaaa", "2zzz", 26, "1ab=y 2=z "},
	} {
		list, is := impl.Between(cells, root, c.from, c.to, c.most)
		got := ""
		for _, pair := range list {
			got += pair.Key + "=" + pair.Value + " "
		}
		if !is || got != c.want {
			t.Errorf("Between %q and %q the first %d are %q, %v, want %q", c.from, c.to, c.most, got, is, c.want)
		}
	}
}

// P9: ordinary maps, from each text about their keys to each, the first of each count.
func TestP9EachBound(t *testing.T) {
	for _, pairs := range someMaps() {
		cells, root := treeOf(pairs)
		bounds := boundsOf(pairs)
		for i, from := range bounds {
			for k, to := range bounds {
				mustScan(t, cells, root, pairs, from, to, maxPairs)
				mustScan(t, cells, root, pairs, from, to, int64((i+k)%(len(pairs)+2)))
			}
		}
	}
}

// P9: from each key to each, the first of each count.
func TestP9EachCount(t *testing.T) {
	for _, pairs := range someMaps() {
		cells, root := treeOf(pairs)
		keys := append(keysIn(cells, root), "")
		for _, from := range keys {
			for _, to := range keys {
				for most := range int64(len(pairs) + 2) {
					mustScan(t, cells, root, pairs, from, to, most)
				}
			}
		}
	}
}

// P9: drawn maps of each size up to MaxPairs, in the program's own tree, with drawn bounds and counts.
func TestP9DrawnMaps(t *testing.T) {
	r := rand.New(rand.NewSource(91))
	lengths := map[int]int{}
	for size := range maxPairs + 1 {
		for range 6 {
			pairs := mapOfSize(r, size)
			cells, root := impl.TreeOf(listOf(pairs))
			bounds := boundsOf(pairs)
			for range 40 {
				from, to := bounds[r.Intn(len(bounds))], bounds[r.Intn(len(bounds))]
				if to != "" && from > to && r.Intn(8) > 0 {
					from, to = to, from
				}
				most := int64(r.Intn(maxPairs + 1))
				mustScan(t, cells, root, pairs, from, to, most)
				mustScan(t, cells, root, pairs, from, to, maxPairs)
				lengths[len(betweenByWords(pairs, from, to, most))]++
			}
		}
	}
	for length := range 16 {
		if lengths[length] < 10 {
			t.Fatalf("just so many pairs are told so many times: %v", lengths)
		}
	}
}

// mustMeet asks that a scan up to the cut and one from it on are together the whole one.
func mustMeet(t *testing.T, cells []impl.Cell, root int64, from, cut, to string) {
	t.Helper()
	whole, is := impl.Between(cells, root, from, to, maxPairs)
	first, isFirst := impl.Between(cells, root, from, cut, maxPairs)
	second, isSecond := impl.Between(cells, root, cut, to, maxPairs)
	if !is || !isFirst || !isSecond || !slices.Equal(slices.Concat(first, second), whole) {
		t.Fatalf("from %q to %q it is %v, %v: %v, %v up to %q, and %v, %v from there on", from, to, whole, is, first, isFirst, cut, second, isSecond)
	}
}

// P9: two scans that meet, at a key that is there and at a text that is none, are together the whole one: of the whole map, and between two bounds.
func TestP9Meet(t *testing.T) {
	r := rand.New(rand.NewSource(92))
	for size := range maxPairs + 1 {
		pairs := mapOfSize(r, size)
		cells, root := impl.TreeOf(listOf(pairs))
		if all, is := impl.Between(cells, root, "", "", maxPairs); !is || !slices.Equal(all, listOf(pairs)) {
			t.Fatalf("the whole scan of %v is %v, %v", pairs, all, is)
		}
		bounds := append(boundsOf(pairs), noKeys()...)
		slices.Sort(bounds)
		for i, cut := range bounds {
			if cut == "" {
				continue // up to it is up to the end
			}
			mustMeet(t, cells, root, "", cut, "")
			behind := bounds[i+r.Intn(len(bounds)-i)]
			mustMeet(t, cells, root, bounds[r.Intn(i+1)], cut, behind)
			mustMeet(t, cells, root, cut, cut, behind)
			mustMeet(t, cells, root, "", cut, cut)
		}
	}
}

// P9: gone through a few at a time, each time from just behind the last one on, each pair comes once.
func TestP9FewAtATime(t *testing.T) {
	r := rand.New(rand.NewSource(93))
	for _, pairs := range append(someMaps(), longestPairs(), numberedPairs(maxPairs), mapOfSize(r, 25), mapOfSize(r, maxPairs), mapOfSize(r, maxPairs)) {
		cells, root := treeOf(pairs)
		for most := int64(1); most <= maxPairs; most++ {
			all, from := []impl.Pair{}, ""
			for range maxPairs + 1 {
				list, is := impl.Between(cells, root, from, "", most)
				if !is || int64(len(list)) > most {
					t.Fatalf("from %q on %v, %v", from, list, is)
				}
				if len(list) == 0 {
					break
				}
				all, from = append(all, list...), list[len(list)-1].Key+"\x00"
			}
			if !slices.Equal(all, listOf(pairs)) {
				t.Fatalf("%d at a time it is %v, want %v", most, all, listOf(pairs))
			}
		}
	}
}

// P9: from and to at each key, just ahead of it and just behind it; and to alike to from, and ahead of it.
func TestP9AtEachKey(t *testing.T) {
	for _, pairs := range append(someMaps(), longestPairs(), numberedPairs(maxPairs)) {
		cells, root := treeOf(pairs)
		list := listOf(pairs)
		for i, pair := range list {
			for _, c := range []struct {
				from, to string
				want     []impl.Pair
			}{
				{pair.Key, "", list[i:]}, {pair.Key + "\x00", "", list[i+1:]}, {"", pair.Key, list[:i]}, {"", pair.Key + "\x00", list[:i+1]},
				{pair.Key, pair.Key + "\x00", list[i : i+1]}, {pair.Key, pair.Key, nil}, {pair.Key + "\x00", pair.Key, nil}, {pair.Key, list[0].Key, nil}, {list[len(list)-1].Key, pair.Key, nil},
			} {
				got, is := impl.Between(cells, root, c.from, c.to, maxPairs)
				if !is || !slices.Equal(got, c.want) {
					t.Fatalf("Between %q and %q in %v: %v, %v, want %v", c.from, c.to, list, got, is, c.want)
				}
			}
		}
	}
}

// P9: the empty tree: nothing, and true, whatever the cells and the bounds are.
func TestP9RootZero(t *testing.T) {
	for _, cells := range someCells() {
		for _, text := range append(noKeys(), "0", "1a", "ffffffff") {
			for _, most := range []int64{0, 1, maxPairs} {
				mustScan(t, cells, 0, nil, text, "", most)
				mustScan(t, cells, 0, nil, "", text, most)
				mustScan(t, cells, 0, nil, text, text, most)
			}
		}
		for _, most := range outOfRange() {
			mustNotScan(t, cells, 0, "", "", most)
		}
	}
}

// P9: bounds that are no keys: too long, of other bytes, what begins a Key, and what goes on behind one.
func TestP9NoKeys(t *testing.T) {
	every := map[string]string{}
	for _, digit := range hexDigits {
		every[string(digit)] = "v"
	}
	for _, pairs := range append(someMaps(), every, longestPairs()) {
		cells, root := treeOf(pairs)
		for _, text := range noKeys() {
			mustScan(t, cells, root, pairs, text, "", maxPairs)
			mustScan(t, cells, root, pairs, "", text, maxPairs)
			mustScan(t, cells, root, pairs, text, text, maxPairs)
			mustScan(t, cells, root, pairs, "1", text, 3)
			mustScan(t, cells, root, pairs, text, "f", 3)
		}
		for a := range 256 { // each byte, as one text, not as a rune
			text := string([]byte{byte(a)})
			mustScan(t, cells, root, pairs, text, "", maxPairs)
			mustScan(t, cells, root, pairs, "", text, maxPairs)
			mustScan(t, cells, root, pairs, "1"+text, "f"+text, maxPairs)
		}
	}
	cells, root := treeOf(every)
	for _, c := range []struct {
		from, to string
		count    int
	}{{":", "", 6}, {"@", "`", 0}, {"A", "", 6}, {"F", "", 6}, {"", "A", 10}, {"", "Z", 10}, {"/", ":", 10}, {"9", "a", 1}, {"9\xff", "a\x00", 1}, {"a", "g", 6}, {"g", "", 0}, {"\xff", "", 0}, {"\x00", "\xff", 16}, {"", "\x00", 0}} {
		if list, is := impl.Between(cells, root, c.from, c.to, maxPairs); !is || len(list) != c.count {
			t.Fatalf("Between %q and %q there are %v, %v, want %d", c.from, c.to, list, is, c.count)
		}
	}
}

// P9: most 0, 1, one fewer than there are, just as many, one more, MaxPairs; and out of range.
func TestP9Most(t *testing.T) {
	for _, count := range []int{1, 2, 3, 15, 16, 17, 25, maxPairs} {
		pairs := numberedPairs(count)
		cells, root := treeOf(pairs)
		list := listOf(pairs)
		for most := range maxPairs + 1 {
			got, is := impl.Between(cells, root, "", "", int64(most))
			if !is || !slices.Equal(got, list[:min(most, count)]) {
				t.Fatalf("the first %d of %v are %v, %v", most, list, got, is)
			}
			for from := range list {
				mustScan(t, cells, root, pairs, list[from].Key, "", int64(most))
				mustScan(t, cells, root, pairs, list[from].Key, list[(from+count)/2].Key, int64(most))
			}
		}
		for _, most := range outOfRange() {
			for _, from := range []string{"", "0", list[count-1].Key, "~"} {
				for _, to := range []string{"", "!", list[0].Key, "1", "~"} {
					mustNotScan(t, cells, root, from, to, most)
				}
			}
		}
	}
}

// P9: a tree of just MaxPairs pairs, with as many nodes as can be and with few, and one of a pair more; all of it is asked for, and one pair.
func TestP9MaxPairs(t *testing.T) {
	for _, pairs := range []map[string]string{longestPairs(), numberedPairs(maxPairs)} {
		cells, root := treeOf(pairs)
		for _, text := range boundsOf(pairs) {
			mustScan(t, cells, root, pairs, text, "", maxPairs)
			mustScan(t, cells, root, pairs, "", text, maxPairs)
			mustScan(t, cells, root, pairs, text, "", 1)
			mustScan(t, cells, root, pairs, "", text, maxPairs-1)
		}
		for _, key := range []string{"0", "1f", "7", "ffffffff"} {
			pairs[key] = "more"
			cells, root := treeOf(pairs)
			for _, text := range append(keysIn(cells, root), "", "!", "~", "0\x00") {
				for _, most := range []int64{0, 1, 25, maxPairs} {
					mustNotScan(t, cells, root, text, "", most)
					mustNotScan(t, cells, root, "", text, most)
					mustNotScan(t, cells, root, text, text, most)
				}
			}
			delete(pairs, key)
		}
	}
}

// mustNeverScan asks for nothing and false, whatever lies between and however much of it is asked for, most out of range among it.
func mustNeverScan(t *testing.T, cells []impl.Cell, root int64, keys ...string) {
	t.Helper()
	for _, text := range append(keys, "", "!", "1", "~") {
		for _, most := range []int64{0, 1, 2, maxPairs, maxPairs + 1, -1, math.MaxInt64, math.MinInt64} {
			mustNotScan(t, cells, root, text, "", most)
			mustNotScan(t, cells, root, "", text, most)
			mustNotScan(t, cells, root, text, text, most)
		}
	}
}

// P9: a node that is not there, each one of the tree: also where it is ahead of what is asked for, or behind that, or behind the first of it.
func TestP9OneNodeGone(t *testing.T) {
	for _, pairs := range append(someMaps(), numberedPairs(20)) {
		cells, root := treeOf(pairs)
		for _, c := range cells {
			less, _ := impl.Without(cells, c.Name)
			mustNeverScan(t, less, root, keysIn(cells, root)...)
			mustScan(t, less, 0, nil, "", "", maxPairs)
			if pairs, is := pairsByWords(thereIn(less), less[0].Name); is {
				mustScan(t, less, less[0].Name, pairs, "", "", maxPairs)
			} else {
				mustNeverScan(t, less, less[0].Name)
			}
		}
	}
}

// P9: what is not there, is at no path of a key, or has no name that can be, at each place of a fork: the pairs ahead of it, and those behind it, are not told alone.
func TestP9OnePlaceWrong(t *testing.T) {
	near, far, deep := leafOf("near"), leafOf("far", 4, 5), stemOf(nameOfNode(leafOf("near")), 1, 2, 3, 4, 5, 6, 7, 8)
	for at := range int64(16) {
		for _, wrong := range []int64{5, nameOfNode(far), nameOfNode(deep), nameOfNode(selfForked())} {
			f := forkOf("here")
			for k := range int64(16) {
				kid := kidAt(k, near)
				if k == at {
					kid.Name = wrong
				}
				f.Kids = append(f.Kids, kid)
			}
			six := stemOf(nameOfNode(f), 1, 2, 3, 4, 5, 6)
			cells := cellsOfNodes(near, far, deep, selfForked(), f, six)
			key := "123456" + digitsOf([]int64{at})
			mustNeverScan(t, cells, nameOfNode(six), "123456", "1234560", "123456f", key, key+"\x00", key+"g")
			mustNeverScan(t, cells, nameOfNode(f), "0", "f", key[6:])
		}
	}
}

// P9: a value at no path of a key: a leaf and a fork as root, where nothing else is, and where all else is right.
func TestP9NoPathOfAKey(t *testing.T) {
	l := leafOf("v")
	f := forkOf("v", kidAt(3, l), kidAt(4, l))
	g := forkOf("", kidAt(3, l), kidAt(4, l))
	cells := cellsOfNodes(l, f, g)
	mustNeverScan(t, cells, nameOfNode(l), "3", "4")
	mustNeverScan(t, cells, nameOfNode(f), "3", "30", "4")
	mustScan(t, cells, nameOfNode(g), map[string]string{"3": "v", "4": "v"}, "3", "4", maxPairs)
}

// P9: cells that are not CellsOk, also where the bad one is not of the tree, and where the tree is the empty one.
func TestP9BadCells(t *testing.T) {
	for _, cells := range badCells() {
		for _, root := range []int64{nameOfNode(sampleNodes()[4]), nameOfNode(sampleNodes()[3]), 0, 5, -1, math.MaxInt64, math.MinInt64} {
			mustNeverScan(t, cells, root, "1a", "2", "3")
		}
	}
}

// P9: a root that is below 0, also where it is a name but for its sign, and one that is not there.
func TestP9BadRoots(t *testing.T) {
	cells := cellsOfNodes(sampleNodes()...)
	roots := []int64{-1, -2, math.MinInt64, math.MinInt64 + 1, 1, 5, math.MaxInt64, nameOfNode(leafOf("nowhere"))}
	for _, name := range namesOf(cells) {
		roots = append(roots, -name, ^name, name|math.MinInt64, name-1, name+1)
	}
	for _, root := range roots {
		mustNeverScan(t, cells, root, "1a", "2", "3")
		mustNeverScan(t, nil, root)
	}
}

// P9: other trees among the cells, and nodes of no tree: nothing of them is told.
func TestP9OtherCells(t *testing.T) {
	pairs := map[string]string{"1a": "x", "1ab": "y", "2": "z"}
	nodes, root := planted(pairs)
	others, top := planted(numberedPairs(30))
	cells := joined(cellsOfNodes(append(nodes, others...)...), selfNamed(), selfForked(), leafOf("x"), stemOf(5, 1), forkOf("lost", impl.Kid{At: 1, Name: 7}))
	for _, from := range boundsOf(pairs) {
		for _, to := range boundsOf(pairs) {
			mustScan(t, cells, root, pairs, from, to, maxPairs)
		}
		mustNotScan(t, cells, top, from, "", maxPairs)
	}
	full := cellsOfNodes(append(numberedLeaves(maxCells-len(nodes)), nodes...)...)
	mustScan(t, full, root, pairs, "1a", "", 2)
	mustNotScan(t, cellsOfNodes(append(numberedLeaves(maxCells-len(nodes)+1), nodes...)...), root, "1a", "", 2)
}

// P9: trees that are that of no map, with stems to stems and nodes that are reached twice: the pairs still come by Key.
func TestP9OtherTrees(t *testing.T) {
	low := forkOf("m", kidAt(5, leafOf("l", 6)))
	first := stemOf(nameOfNode(low), 10)
	second := stemOf(nameOfNode(first), 9)
	f := forkOf("w", kidAt(0, low), kidAt(1, second), kidAt(9, first), kidAt(10, low), kidAt(15, second))
	top := stemOf(nameOfNode(f), 3)
	cells := cellsOfNodes(leafOf("l", 6), low, first, second, f, top)
	pairs := map[string]string{"3": "w", "30": "m", "3056": "l", "319a": "m", "319a56": "l", "39a": "m", "39a56": "l", "3a": "m", "3a56": "l", "3f9a": "m", "3f9a56": "l"}
	for _, from := range boundsOf(pairs) {
		for _, to := range []string{"", "3", "30", "31", "3a", "3f9a56", "3f9a57", "4"} {
			for _, most := range []int64{0, 1, 2, 10, 11, 12, maxPairs} {
				mustScan(t, cells, nameOfNode(top), pairs, from, to, most)
			}
		}
	}
}

// P9: nodes that are reached from themselves, where no value is reached, beside pairs and alone; and where one is.
func TestP9ReachedFromItself(t *testing.T) {
	s, w, f, a, l := selfNamed(), selfForkedWidely(), selfForked(), selfForkedAhead(), leafOf("v")
	both := forkOf("u", kidAt(1, s), kidAt(2, l), kidAt(3, w), kidAt(4, l))
	under := stemOf(nameOfNode(both), 9)
	cells := cellsOfNodes(s, w, f, a, l, both, under)
	pairs := map[string]string{"9": "u", "92": "v", "94": "v"}
	for _, from := range append(boundsOf(pairs), "91", "91283283", "93", "930", "93ffffff") {
		for _, to := range []string{"", "9", "90", "91283", "92", "920", "93", "94", "940"} {
			for _, most := range []int64{0, 1, 2, 3, maxPairs} {
				mustScan(t, cells, nameOfNode(under), pairs, from, to, most)
				mustScan(t, cells, nameOfNode(s), nil, from, to, most)
				mustScan(t, cells, nameOfNode(w), nil, from, to, most)
			}
			mustNotScan(t, cells, nameOfNode(under), from, to, maxPairs+1)
			mustNotScan(t, cells, nameOfNode(s), from, to, -1)
		}
	}
	for _, n := range []impl.Node{f, a, stemOf(nameOfNode(f), 1), stemOf(nameOfNode(a), 1)} {
		mustNeverScan(t, joined(cells, n), nameOfNode(n), "a", "1a", "1f")
	}
}

// P9: more ways than can be gone, wherever the scan begins and ends.
func TestP9ManyWays(t *testing.T) {
	nodes := manyWays()
	cells := cellsOfNodes(nodes...)
	for _, i := range []int{2, 8, 9, maxCells - 1} {
		mustNotScan(t, cells, nameOfNode(nodes[i]), "ffff", "", 1)
		mustNotScan(t, cells, nameOfNode(nodes[i]), "", "00000001", 1)
	}
}

// mustScanByWords asks for what the document's words tell, whatever it is; whether there is something to tell is answered.
func mustScanByWords(t *testing.T, cells []impl.Cell, root int64, from, to string, most int64) bool {
	t.Helper()
	pairs, is := pairsByWords(thereIn(cells), root)
	if !is || most < 0 || most > maxPairs {
		mustNotScan(t, cells, root, from, to, most)
		return false
	}
	mustScan(t, cells, root, pairs, from, to, most)
	return true
}

// drawnBound is mostly a key, or a text that is nearly one.
func drawnBound(r *rand.Rand) string {
	switch r.Intn(8) {
	case 0:
		return string(drawnBytes(r, 12))
	case 1:
		return ""
	case 2:
		return drawnKeyAmong(r, 16) + drawnKeyAmong(r, 16)
	case 3:
		return drawnKeyAmong(r, 4) + string(drawnBytes(r, 1))
	}
	return drawnKeyAmong(r, 4)
}

// drawnMost is mostly in range.
func drawnMost(r *rand.Rand) int64 {
	if r.Intn(8) == 0 {
		return r.Int63()>>r.Intn(64) - r.Int63()>>r.Intn(64)
	}
	return int64(r.Intn(maxPairs + 1))
}

// P9: of drawn nodes in any shape, some of which are not there, what lies between is what the document's words tell.
func TestP9DrawnNodes(t *testing.T) {
	r := rand.New(rand.NewSource(94))
	told := map[bool]int{}
	for range 400 {
		cells, roots := drawnGaps(r)
		for _, root := range roots {
			told[mustScanByWords(t, cells, root, drawnBound(r), drawnBound(r), drawnMost(r))]++
		}
	}
	if told[true] < 1500 || told[false] < 1500 {
		t.Fatalf("true and false are told %v times", told)
	}
}

// P19: whatever the arguments are, there is an answer.
func TestP19BetweenAnswersAlways(t *testing.T) {
	r := rand.New(rand.NewSource(95))
	pools := gatherPools()
	for range 3000 {
		cells, root := drawnCells(r, pools)
		from, to, most := drawnBound(r), drawnBound(r), drawnMost(r)
		switch {
		case !impl.CellsOk(cells) || root < 0:
			mustNotScan(t, cells, root, from, to, most)
		case root == nameOfNode(selfNamed()):
			if list, is := impl.Between(cells, root, from, to, most); len(list) != 0 || is != (most >= 0 && most <= maxPairs) {
				t.Fatalf("of a stem that is its own Kid the scan is %v, %v", list, is)
			}
		default:
			mustScanByWords(t, cells, root, from, to, most)
		}
	}
}

// P19: the cells stay, and so does the spare room behind them; no answer depends on that room.
func TestP19BetweenLeavesItsArguments(t *testing.T) {
	lists, roots := gatherCells()
	for _, cells := range lists {
		for i, root := range roots {
			from, to, most := []string{"", "1a", "2"}[i%3], []string{"", "3", "1g", "2"}[i%4], int64(i%5-1)
			want, told := impl.Between(cloneCells(cells), root, from, to, most)
			mustLeave(t, cells, func(arg []impl.Cell) {
				if got, is := impl.Between(arg, root, from, to, most); is != told || !slices.Equal(got, want) {
					t.Fatalf("Between(%v, %d, %q, %q, %d) = %v, %v with spare room, %v, %v without", cells, root, from, to, most, got, is, want, told)
				}
			})
		}
	}
}

// P19: the pairs that are answered are new memory, with their texts.
func TestP19BetweenIsNewMemory(t *testing.T) {
	lists, roots := gatherCells()
	for _, cells := range lists {
		for i, root := range roots {
			mustBeNewPairs(t, cells, func(arg []impl.Cell) []impl.Pair {
				list, _ := impl.Between(arg, root, []string{"", "1a", "2"}[i%3], []string{"", "3"}[i%2], int64(maxPairs-i))
				return list
			})
		}
	}
}
