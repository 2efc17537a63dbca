package trie_test

import (
	"crypto/sha256"
	"encoding/binary"
	"errors"
	"fmt"
	"math"
	"slices"
	"strings"
	"testing"

	"rollkeeper/api"
	"rollkeeper/trie"
)

const (
	commitA = "aaaaaaaaaaaaaaaa"
	commitB = "bbbbbbbbbbbbbbbb"
)

// otherMark is a mark by the library's sum, its text laid out part by part.
func otherMark(kind byte, parts ...string) string {
	text := []byte{kind}
	for _, p := range parts {
		text = binary.BigEndian.AppendUint64(text, uint64(len(p)))
		text = append(text, p...)
	}
	h := sha256.Sum256(text)
	return string(h[:16])
}

// num is a number as eight bytes.
func num(n int) string { return string(binary.BigEndian.AppendUint64(nil, uint64(n))) }

// bitsOf are an index's bits, a digit each.
func bitsOf(ix string) string {
	var b []byte
	for i := range len(ix) {
		for k := range 8 {
			b = append(b, '0'+ix[i]<<k>>7)
		}
	}
	return string(b)
}

// among are those items whose bits begin so.
func among(l []api.Item, begin string) []api.Item {
	var in []api.Item
	for _, x := range l {
		if strings.HasPrefix(bitsOf(x.Index), begin) {
			in = append(in, x)
		}
	}
	return in
}

// otherNode is the NODE of those items whose bits begin so, in whichever order they stand.
func otherNode(l []api.Item, begin string) string {
	in := among(l, begin)
	switch len(in) {
	case 0:
		return otherMark('e', num(len(begin)))
	case 1:
		return otherMark('l', num(len(begin)), in[0].Index, in[0].Commit)
	}
	return otherMark('n', otherNode(in, begin+"0"), otherNode(in, begin+"1"))
}

// drawn is a mark that looks drawn, the same each time.
func drawn(seed int) string {
	b := make([]byte, api.MarkSize)
	x := uint32(seed)*2654435761 + 1
	for i := range b {
		x = x*1664525 + 1013904223
		b[i] = byte(x >> 24)
	}
	return string(b)
}

// turned is a mark with another bit k.
func turned(mark string, k int) string {
	b := []byte(mark)
	b[k/8] ^= 0x80 >> (k % 8)
	return string(b)
}

// items are of these indexes, in order, each with a commit of its own.
func items(indexes ...string) []api.Item {
	l := []api.Item{}
	for _, ix := range slices.Compact(slices.Sorted(slices.Values(indexes))) {
		l = append(l, api.Item{Index: ix, Commit: otherMark('c', ix)})
	}
	return l
}

// scattered are so many items that look drawn.
func scattered(n int) []api.Item {
	var l []string
	for i := range n {
		l = append(l, drawn(i))
	}
	return items(l...)
}

// comb are a mark, and those that are alike with it in 0 bits, in step bits, in twice as many, and so on.
func comb(mark string, step int) []api.Item {
	l := []string{mark}
	for k := 0; k < api.Depth; k += step {
		l = append(l, turned(mark, k))
	}
	return items(l...)
}

// zeros and ones are the least and the greatest mark.
func zeros() string { return strings.Repeat("\x00", api.MarkSize) }

func ones() string { return strings.Repeat("\xff", api.MarkSize) }

// lists are Right.
func lists() [][]api.Item {
	all := [][]api.Item{nil, {}, items(zeros()), items(ones()), items(zeros(), ones()), comb(zeros(), 3), comb(ones(), 7), comb(drawn(9), 5), scattered(api.MaxItems)}
	for n := range 12 {
		all = append(all, scattered(n))
	}
	for k := range api.Depth {
		all = append(all, items(drawn(k), turned(drawn(k), k)), items(drawn(k), turned(drawn(k), k), turned(drawn(k), 127-k)))
	}
	return all
}

// wrongLists are not Right: too many, of what are no marks, or not rising.
func wrongLists() map[string][]api.Item {
	all := map[string][]api.Item{
		"too many":      scattered(api.MaxItems + 1),
		"far too many":  scattered(5 * api.MaxItems),
		"one twice":     {{Index: drawn(1), Commit: commitA}, {Index: drawn(1), Commit: commitA}},
		"one index":     {{Index: drawn(1), Commit: commitA}, {Index: drawn(1), Commit: commitB}},
		"falling":       {{Index: ones(), Commit: commitA}, {Index: zeros(), Commit: commitB}},
		"signed bytes":  {{Index: turned(zeros(), 0), Commit: commitA}, {Index: zeros(), Commit: commitB}},
		"empty":         {{}},
		"empty, behind": {{Index: zeros(), Commit: commitA}, {}},
	}
	for _, at := range []int{0, 1, 4, 8} {
		for _, bad := range notMarks() {
			l := scattered(9)
			l[at].Index = bad
			all[fmt.Sprintf("index %q at %d", bad, at)] = l
			l = scattered(9)
			l[at].Commit = bad
			all[fmt.Sprintf("commit %q at %d", bad, at)] = l
		}
	}
	for at := range 8 {
		l := scattered(9)
		l[at], l[at+1] = l[at+1], l[at]
		all[fmt.Sprintf("turned round at %d", at)] = l
	}
	return all
}

// notMarks are texts of other sizes than a mark's.
func notMarks() []string {
	return []string{"", "\x00", strings.Repeat("\x00", 15), strings.Repeat("\xff", 15), strings.Repeat("\x00", 17), strings.Repeat("a", 32), strings.Repeat("ä", 16)}
}

// check: an error is just the one that is wanted, and tells no place.
func check(t *testing.T, what string, err error, want api.Errno) {
	t.Helper()
	if got := api.Tell(err); got != want {
		t.Errorf("%s: error %d, not %d", what, got, want)
	}
	var at *api.At
	if errors.As(err, &at) {
		t.Errorf("%s: the error tells place %d", what, at.Place)
	}
}

// TestMarks: 3.1: Empty, Leaf and Join are of kinds e, l and n, each of its parts, and refuse nothing.
func TestMarks(t *testing.T) {
	for _, depth := range []int{0, 1, 3, 127, 128, 129, 255, 256, -1, math.MaxInt, math.MinInt} {
		if got, want := trie.Empty(depth), otherMark('e', num(depth)); got != want {
			t.Errorf("Empty at %d is %x, not %x", depth, got, want)
		}
		for _, x := range []api.Item{{}, {Index: "a", Commit: "b"}, {Index: "ab"}, {Commit: "ab"}, {Index: drawn(1), Commit: drawn(2)}, {Index: drawn(2), Commit: drawn(1)}} {
			if got, want := trie.Leaf(x, depth), otherMark('l', num(depth), x.Index, x.Commit); got != want {
				t.Errorf("Leaf of %q at %d is %x, not %x", x, depth, got, want)
			}
		}
	}
	for _, pair := range [][2]string{{"", ""}, {"a", "b"}, {"b", "a"}, {"ab", ""}, {"", "ab"}, {drawn(1), drawn(2)}, {drawn(2), drawn(1)}, {drawn(1), drawn(1)}} {
		if got, want := trie.Join(pair[0], pair[1]), otherMark('n', pair[0], pair[1]); got != want {
			t.Errorf("Join of %q is %x, not %x", pair, got, want)
		}
	}
}

// TestRight: 3.1: marks that rise, up to MaxItems of them.
func TestRight(t *testing.T) {
	for _, l := range lists() {
		if !trie.Right(l) {
			t.Errorf("Right of %d items %.200q is false", len(l), l)
		}
	}
	for n := range 2 * api.MaxItems {
		if got := trie.Right(scattered(n)); got != (n <= api.MaxItems) {
			t.Errorf("Right of %d items is %v", n, got)
		}
	}
	same := []api.Item{{Index: zeros(), Commit: commitB}, {Index: turned(zeros(), 127), Commit: commitA}, {Index: ones(), Commit: commitB}}
	if !trie.Right(same) {
		t.Error("Right hangs on the commits, as long as they are marks")
	}
}

// TestRightWrong: 3.1: of each list with a wrong place it is false.
func TestRightWrong(t *testing.T) {
	for what, l := range wrongLists() {
		if trie.Right(l) {
			t.Errorf("%s: Right is true", what)
		}
	}
}

// TestRightByteByByte: 3.1: whichever byte is the first other one, the greater one (0 to 255) must stand behind.
func TestRightByteByByte(t *testing.T) {
	for at := range api.MarkSize {
		for _, pair := range [][2]byte{{0, 1}, {0, 255}, {1, 128}, {127, 128}, {127, 255}, {254, 255}} {
			low, high := []byte(drawn(at)), []byte(drawn(at))
			low[at], high[at] = pair[0], pair[1]
			for i := at + 1; i < api.MarkSize; i++ {
				low[i], high[i] = 255, 0
			}
			a, b := api.Item{Index: string(low), Commit: commitA}, api.Item{Index: string(high), Commit: commitB}
			if !trie.Right([]api.Item{a, b}) {
				t.Errorf("Right of %x and %x is false", low, high)
			}
			if trie.Right([]api.Item{b, a}) {
				t.Errorf("Right of %x and %x is true", high, low)
			}
		}
	}
}

// TestHalves: 3.1: the items of bit 0, then those of bit 1, all of them, in order.
func TestHalves(t *testing.T) {
	for _, l := range lists() {
		for depth := range api.Depth {
			in := l
			if len(l) > 0 {
				in = among(l, bitsOf(l[depth%len(l)].Index)[:depth])
			}
			a, b := trie.Halves(in, depth)
			if got := slices.Concat(a, b); !slices.Equal(got, in) {
				t.Fatalf("Halves at %d of %q are together %q", depth, in, got)
			}
			for side, half := range [][]api.Item{a, b} {
				for _, x := range half {
					if bitsOf(x.Index)[depth] != byte('0'+side) {
						t.Errorf("Halves at %d: %x is on side %d", depth, x.Index, side)
					}
				}
			}
		}
	}
}

// TestHalvesFresh: P4: what is written into a half, or behind it, is neither in the list nor in the other half.
func TestHalvesFresh(t *testing.T) {
	for _, l := range [][]api.Item{comb(zeros(), 3), comb(ones(), 3), scattered(20), items(zeros()), items(ones())} {
		was := slices.Clone(l)
		a, b := trie.Halves(l, 0)
		wasB := slices.Clone(b)
		for i := range a {
			a[i] = api.Item{Index: "other"}
		}
		a = append(a, api.Item{Index: "behind"})
		if !slices.Equal(l, was) || !slices.Equal(b, wasB) {
			t.Errorf("what is written into the first half stands elsewhere: %.200q %.200q", l, b)
		}
		for i := range b {
			b[i] = api.Item{Index: "other"}
		}
		if !slices.Equal(l, was) || a[len(a)-1].Index != "behind" {
			t.Errorf("what is written into the second half stands elsewhere: %.200q %.200q", l, a)
		}
	}
}

// TestRoot: 3.2: the NODE of all items at depth 0.
func TestRoot(t *testing.T) {
	for _, l := range lists() {
		got, err := trie.Root(l)
		check(t, "Root", err, api.OK)
		if want := otherNode(l, ""); got != want {
			t.Errorf("Root of %d items %.200q is %x, not %x", len(l), l, got, want)
		}
	}
}

// TestRootFew: 3.2 and the section 'Examples': of no items e(0), of one l(0, Index, Commit), of two that part at once n of both at 1.
func TestRootFew(t *testing.T) {
	x, y := api.Item{Index: zeros(), Commit: commitA}, api.Item{Index: turned(zeros(), 0), Commit: commitB}
	z := api.Item{Index: turned(zeros(), 1), Commit: commitB}
	for _, c := range []struct {
		what string
		l    []api.Item
		want string
	}{
		{"nil", nil, otherMark('e', num(0))},
		{"none", []api.Item{}, otherMark('e', num(0))},
		{"one", []api.Item{x}, otherMark('l', num(0), x.Index, x.Commit)},
		{"another one", []api.Item{y}, otherMark('l', num(0), y.Index, y.Commit)},
		{"two", []api.Item{x, y}, otherMark('n', otherMark('l', num(1), x.Index, x.Commit), otherMark('l', num(1), y.Index, y.Commit))},
		{"two that part later", []api.Item{x, z}, otherMark('n', otherMark('n', otherMark('l', num(2), x.Index, x.Commit), otherMark('l', num(2), z.Index, z.Commit)), otherMark('e', num(1)))},
	} {
		got, err := trie.Root(c.l)
		check(t, c.what, err, api.OK)
		if got != c.want {
			t.Errorf("Root of %s is %x, not %x", c.what, got, c.want)
		}
	}
}

// TestRootTellsApart: 3.2: other items have another root, and the same ones the same one.
func TestRootTellsApart(t *testing.T) {
	l := comb(drawn(3), 9)
	seen := map[string]string{}
	note := func(what string, l []api.Item) {
		r, err := trie.Root(l)
		check(t, what, err, api.OK)
		if was, ok := seen[r]; ok {
			t.Errorf("%s and %s have one root", was, what)
		}
		seen[r] = what
		if again, _ := trie.Root(slices.Clone(l)); again != r {
			t.Errorf("%s: Root is %x, then %x", what, r, again)
		}
	}
	note("all", l)
	for i := range l {
		note(fmt.Sprint("without ", i), slices.Delete(slices.Clone(l), i, i+1))
		other := slices.Clone(l)
		other[i].Commit = turned(other[i].Commit, 127)
		note(fmt.Sprint("another commit at ", i), other)
	}
	for i := range l {
		if i < len(l)-1 { // all but the last one were told already
			note(fmt.Sprint("the first ", i), l[:i])
		}
	}
	note("one more", append(slices.Clone(l), items(ones())...))
}

// checkSet: Set is the list with x under its index, in order, and the list is as it was, also behind its length.
func checkSet(t *testing.T, l []api.Item, x api.Item) []api.Item {
	t.Helper()
	byIndex := map[string]string{x.Index: x.Commit}
	for _, y := range l {
		if y.Index != x.Index {
			byIndex[y.Index] = y.Commit
		}
	}
	var want []api.Item
	for _, ix := range items(slices.Concat([]string{x.Index}, indexes(l))...) {
		want = append(want, api.Item{Index: ix.Index, Commit: byIndex[ix.Index]})
	}
	room := append(slices.Clone(l), api.Item{Index: "behind"}, api.Item{Index: "it"})
	was := slices.Clone(room)
	got, err := trie.Set(room[:len(l)], x)
	check(t, "Set", err, api.OK)
	if !slices.Equal(got, want) {
		t.Errorf("Set of %.300q of %q is %.300q", x, l, got)
	}
	if !trie.Right(got) {
		t.Errorf("Set of %q is not Right", x)
	}
	for i := range got {
		got[i].Commit = "written"
	}
	if !slices.Equal(room, was) {
		t.Errorf("Set of %q, or what is written into its answer, has written into the list: %.300q", x, room)
	}
	return want
}

func indexes(l []api.Item) []string {
	var all []string
	for _, x := range l {
		all = append(all, x.Index)
	}
	return all
}

// TestSet: 3.2: an item of a new index stands where it must, at both ends and between; one of an index that is there takes its place.
func TestSet(t *testing.T) {
	for _, n := range []int{0, 1, 2, 3, 10, api.MaxItems - 1, api.MaxItems} {
		l := scattered(n)
		for i, x := range l {
			checkSet(t, slices.Delete(slices.Clone(l), i, i+1), x)
			checkSet(t, l, api.Item{Index: x.Index, Commit: commitA})
			checkSet(t, l, x)
		}
		if n < api.MaxItems {
			for _, ix := range []string{zeros(), ones(), drawn(1000), drawn(1001)} {
				checkSet(t, l, api.Item{Index: ix, Commit: commitB})
			}
		}
	}
}

// TestSetOrderIsNothing: 3.2: in whichever order items are set, they are the same, and so is their root.
func TestSetOrderIsNothing(t *testing.T) {
	all := comb(drawn(5), 6)
	root := otherNode(all, "")
	for step := 1; step < len(all); step++ {
		var l []api.Item
		for _, times := range []int{1, 2} {
			for start := range step {
				for i := start; i < len(all); i += step {
					l = checkSet(t, l, all[i])
				}
			}
			if got, err := trie.Root(l); err != nil || got != root {
				t.Errorf("set by steps of %d, %d times, the root is %x, not %x", step, times, got, root)
			}
		}
	}
}

// TestSetWrong: 3.2: ErrArg, if the list or the item is not Right, told ahead of ErrFull; ErrFull of one more than MaxItems alone.
func TestSetWrong(t *testing.T) {
	good := api.Item{Index: drawn(1000), Commit: commitA}
	wrong := func(what string, l []api.Item, x api.Item, want api.Errno) {
		t.Helper()
		got, err := trie.Set(l, x)
		check(t, what, err, want)
		if len(got) != 0 {
			t.Errorf("%s: Set tells %d items beside an error", what, len(got))
		}
	}
	for what, l := range wrongLists() {
		wrong(what, l, good, api.ErrArg)
		wrong(what, l, api.Item{}, api.ErrArg)
		if len(l) > 1 {
			wrong(what, l, l[1], api.ErrArg)
		}
	}
	full := scattered(api.MaxItems)
	for _, bad := range notMarks() {
		for _, l := range [][]api.Item{nil, scattered(5), full} {
			wrong("no index", l, api.Item{Index: bad, Commit: commitA}, api.ErrArg)
			wrong("no commit", l, api.Item{Index: good.Index, Commit: bad}, api.ErrArg)
		}
		wrong("no commit in another one's place", full, api.Item{Index: full[7].Index, Commit: bad}, api.ErrArg)
	}
	for _, ix := range []string{zeros(), good.Index, ones(), turned(full[0].Index, 127), turned(full[30].Index, 127), turned(full[59].Index, 127)} {
		wrong("full", full, api.Item{Index: ix, Commit: commitA}, api.ErrFull)
	}
}

// otherProof is what leads to an index: beside the way lie those items that begin as its bits do, but for the last one.
func otherProof(l []api.Item, ix string) api.Proof {
	bits, in, p := bitsOf(ix), l, api.Proof{}
	for depth := 0; len(in) > 1; depth++ {
		beside := map[byte]string{'0': "1", '1': "0"}[bits[depth]]
		p.Path = append(p.Path, otherNode(in, bits[:depth]+beside))
		in = among(in, bits[:depth+1])
	}
	if len(in) == 1 {
		p.Leaf = in[0]
	}
	return p
}

// checkProve: the proof is the one that is wanted, and leads to the root.
func checkProve(t *testing.T, l []api.Item, ix string) api.Proof {
	t.Helper()
	got, err := trie.Prove(l, ix)
	check(t, "Prove", err, api.OK)
	want := otherProof(l, ix)
	if !slices.Equal(got.Path, want.Path) || got.Leaf != want.Leaf {
		t.Errorf("Prove of %x in %d items is %q, not %q", ix, len(l), got, want)
	}
	mark, bits := trie.Empty(len(got.Path)), bitsOf(ix)
	if got.Leaf != (api.Item{}) {
		mark = trie.Leaf(got.Leaf, len(got.Path))
	}
	for depth, beside := range slices.Backward(got.Path) {
		if bits[depth] == '1' {
			mark = trie.Join(beside, mark)
		} else {
			mark = trie.Join(mark, beside)
		}
	}
	if root, _ := trie.Root(l); mark != root {
		t.Errorf("Prove of %x in %d items leads to %x, not to %x", ix, len(l), mark, root)
	}
	return got
}

// TestProve: 3.2: of each index that is there, and of those that are not, wherever they part from those that are.
func TestProve(t *testing.T) {
	for _, l := range lists() {
		for _, ix := range []string{zeros(), ones(), drawn(1000), drawn(1001)} {
			checkProve(t, l, ix)
		}
		for i, x := range l[:min(len(l), 12)] {
			if p := checkProve(t, l, x.Index); p.Leaf != x {
				t.Errorf("Prove of %x, which is there, has the leaf %q", x.Index, p.Leaf)
			}
			for _, k := range []int{0, 1, 8, 17 + i, 126, 127} {
				checkProve(t, l, turned(x.Index, k))
			}
		}
	}
}

// TestProveEnds: 3.2: the way ends where there is one item, whosever it is, or none; at the longest behind 128 steps.
func TestProveEnds(t *testing.T) {
	x := api.Item{Index: zeros(), Commit: commitA}
	for _, c := range []struct {
		what string
		l    []api.Item
		ix   string
		path int
		leaf api.Item
	}{
		{"nil", nil, zeros(), 0, api.Item{}},
		{"none", []api.Item{}, ones(), 0, api.Item{}},
		{"one, itself", []api.Item{x}, zeros(), 0, x},
		{"one, another one", []api.Item{x}, ones(), 0, x},
		{"two, beside both", items(zeros(), turned(zeros(), 1)), ones(), 1, api.Item{}},
		{"two that part late, one of them", items(zeros(), turned(zeros(), 127)), zeros(), 128, items(zeros())[0]},
		{"two that part late, the other one", items(zeros(), turned(zeros(), 127)), turned(zeros(), 127), 128, items(turned(zeros(), 127))[0]},
		{"two that part late, one that parts ahead", items(zeros(), turned(zeros(), 127)), turned(zeros(), 126), 127, api.Item{}},
		{"two that part later than another one", items(zeros(), turned(zeros(), 127)), turned(zeros(), 40), 41, api.Item{}},
		{"two that part at 64, another one with the first", items(zeros(), turned(zeros(), 64)), turned(zeros(), 65), 65, items(zeros())[0]},
	} {
		p := checkProve(t, c.l, c.ix)
		if len(p.Path) != c.path || p.Leaf != c.leaf {
			t.Errorf("%s: a path of %d and the leaf %q, not of %d and %q", c.what, len(p.Path), p.Leaf, c.path, c.leaf)
		}
	}
}

// TestWrong: 3.2: ErrArg of Root and Prove, if the items are not Right, and of Prove, if the index is no MARK.
func TestWrong(t *testing.T) {
	prove := func(what string, l []api.Item, ix string) {
		t.Helper()
		p, err := trie.Prove(l, ix)
		check(t, what, err, api.ErrArg)
		if len(p.Path) != 0 || p.Leaf != (api.Item{}) {
			t.Errorf("%s: Prove tells %q beside an error", what, p)
		}
	}
	for what, l := range wrongLists() {
		r, err := trie.Root(l)
		check(t, what, err, api.ErrArg)
		if r != "" {
			t.Errorf("%s: Root tells %x beside an error", what, r)
		}
		prove(what, l, drawn(1))
		prove(what, l, "")
	}
	for _, bad := range notMarks() {
		for _, l := range [][]api.Item{nil, items(zeros()), scattered(7), scattered(api.MaxItems)} {
			prove("no index", l, bad)
		}
	}
}

// TestLeavesLists: P4: neither a list nor what stands behind its length is written into, and no answer changes with it.
func TestLeavesLists(t *testing.T) {
	all := append(comb(drawn(2), 8), api.Item{Index: "behind"}, api.Item{Index: "it"})
	was, l := slices.Clone(all), all[:len(all)-2]
	root, _ := trie.Root(l)
	p, _ := trie.Prove(l, l[3].Index)
	path := slices.Clone(p.Path)
	trie.Right(l)
	trie.Halves(l, 0)
	if !slices.Equal(all, was) {
		t.Errorf("the list is now %.300q", all)
	}
	for i := range l {
		l[i].Commit = commitA
	}
	if !slices.Equal(p.Path, path) || p.Leaf != was[3] {
		t.Error("the proof has changed with the list that it was made of")
	}
	if again, _ := trie.Root(was[:len(l)]); again != root {
		t.Error("the root has changed with a list that it was made of")
	}
}

// TestAgain: P4: what a call answers hangs on its arguments alone, not on the calls before.
func TestAgain(t *testing.T) {
	ask := func() string {
		l := scattered(9)
		root, _ := trie.Root(l)
		set, _ := trie.Set(l, api.Item{Index: drawn(50), Commit: commitA})
		p, _ := trie.Prove(l, drawn(51))
		a, b := trie.Halves(l, 0)
		return fmt.Sprintf("%q", []any{root, set, p, a, b, trie.Right(l), trie.Empty(4), trie.Leaf(l[0], 4), trie.Join("a", "b")})
	}
	first := ask()
	for n := range 60 {
		l := scattered(n)
		trie.Root(l)
		trie.Set(l, api.Item{Index: drawn(-n), Commit: commitB})
		trie.Prove(l, drawn(-n))
		if again := ask(); again != first {
			t.Fatalf("at first %s, then %s", first, again)
		}
	}
}

func BenchmarkRoot(b *testing.B) {
	l := comb(drawn(1), 3)
	for b.Loop() {
		trie.Root(l)
	}
}
