package proof_test

import (
	"crypto/sha256"
	"encoding/binary"
	"errors"
	"fmt"
	"slices"
	"strings"
	"testing"

	"rollkeeper/api"
	"rollkeeper/proof"
	"rollkeeper/trie"
)

const (
	commitA = "aaaaaaaaaaaaaaaa"
	commitB = "bbbbbbbbbbbbbbbb"
)

// otherMark is a mark by the library's sum, its text laid out part by part.
func otherMark(kind byte, parts ...string) string {
	text := []byte{kind}
	for _, p := range parts {
		text = binary.BigEndian.AppendUint64(text, uint64(len(p)))
		text = append(text, p...)
	}
	h := sha256.Sum256(text)
	return string(h[:16])
}

// num is a number as eight bytes.
func num(n int) string { return string(binary.BigEndian.AppendUint64(nil, uint64(n))) }

// bitsOf are an index's bits, a digit each.
func bitsOf(ix string) string {
	var b []byte
	for i := range len(ix) {
		for k := range 8 {
			b = append(b, '0'+ix[i]<<k>>7)
		}
	}
	return string(b)
}

// otherRoot is what a proof leads to, from the root down: at each depth the mark beside the way, and what lies below.
func otherRoot(bits string, p api.Proof, depth int) string {
	if depth < len(p.Path) {
		below := otherRoot(bits, p, depth+1)
		if bits[depth] == '1' {
			return otherMark('n', p.Path[depth], below)
		}
		return otherMark('n', below, p.Path[depth])
	}
	if p.Leaf.Index == "" && p.Leaf.Commit == "" {
		return otherMark('e', num(depth))
	}
	return otherMark('l', num(depth), p.Leaf.Index, p.Leaf.Commit)
}

// drawn is a mark that looks drawn, the same each time.
func drawn(seed int) string {
	b := make([]byte, api.MarkSize)
	x := uint32(seed)*2654435761 + 1
	for i := range b {
		x = x*1664525 + 1013904223
		b[i] = byte(x >> 24)
	}
	return string(b)
}

// turned is a mark with another bit k.
func turned(mark string, k int) string {
	b := []byte(mark)
	b[k/8] ^= 0x80 >> (k % 8)
	return string(b)
}

// zeros and ones are the least and the greatest mark.
func zeros() string { return strings.Repeat("\x00", api.MarkSize) }

func ones() string { return strings.Repeat("\xff", api.MarkSize) }

// indexes are some of which each bit is 0 in one, and 1 in another.
func indexes() []string { return []string{zeros(), ones(), drawn(1), drawn(2), drawn(3)} }

// notMarks are texts of other sizes than a mark's.
func notMarks() []string {
	return []string{"", "\x00", strings.Repeat("\x00", 15), strings.Repeat("\xff", 17), strings.Repeat("a", 32), strings.Repeat("ä", 16)}
}

// path are so many marks, each another one.
func path(n int) []string {
	l := []string{}
	for i := range n {
		l = append(l, drawn(100+i))
	}
	return l
}

// items are of these indexes, in order, each with a commit of its own.
func items(indexes ...string) []api.Item {
	l := []api.Item{}
	for _, ix := range slices.Compact(slices.Sorted(slices.Values(indexes))) {
		l = append(l, api.Item{Index: ix, Commit: otherMark('c', ix)})
	}
	return l
}

// comb are a mark, and those that are alike with it in 0 bits, in step bits, in twice as many, and so on.
func comb(mark string, step int) []api.Item {
	l := []string{mark}
	for k := 0; k < api.Depth; k += step {
		l = append(l, turned(mark, k))
	}
	return items(l...)
}

// scattered are so many items that look drawn.
func scattered(n int) []api.Item {
	var l []string
	for i := range n {
		l = append(l, drawn(i))
	}
	return items(l...)
}

// lists are Right: of none, one, two that part early and late, many.
func lists() [][]api.Item {
	return [][]api.Item{nil, items(zeros()), items(drawn(1)), items(zeros(), ones()), items(zeros(), turned(zeros(), 1)),
		items(ones(), turned(ones(), 127)), items(drawn(4), turned(drawn(4), 64)), comb(drawn(5), 9), comb(ones(), 40), scattered(5), scattered(api.MaxItems)}
}

// asked are indexes that are there, and some that are not, which part from those anywhere.
func asked(l []api.Item) []string {
	all := indexes()
	for i, x := range l[:min(len(l), 10)] {
		all = append(all, x.Index, turned(x.Index, 0), turned(x.Index, 3+i), turned(x.Index, 64), turned(x.Index, 127))
	}
	return all
}

// check: an error is just the one that is wanted, and tells no place.
func check(t *testing.T, what string, err error, want api.Errno) {
	t.Helper()
	if got := api.Tell(err); got != want {
		t.Errorf("%s: error %d, not %d", what, got, want)
	}
	var at *api.At
	if errors.As(err, &at) {
		t.Errorf("%s: the error tells place %d", what, at.Place)
	}
}

// checkRight: a proof may be: it leads where the chapter says, and is verified of that root alone.
func checkRight(t *testing.T, what, ix string, p api.Proof) {
	t.Helper()
	if !proof.Right(ix, p) {
		t.Errorf("%s: Right is false", what)
	}
	want := otherRoot(bitsOf(ix), p, 0)
	root, err := proof.Root(ix, p)
	check(t, what+": Root", err, api.OK)
	if root != want {
		t.Errorf("%s: Root is %x, not %x", what, root, want)
	}
	wantThere, wantCommit := p.Leaf.Index == ix, ""
	if wantThere {
		wantCommit = p.Leaf.Commit
	}
	commit, there, err := proof.Verify(want, ix, p)
	check(t, what+": Verify", err, api.OK)
	if there != wantThere || commit != wantCommit {
		t.Errorf("%s: Verify tells %x, %v, not %x, %v", what, commit, there, wantCommit, wantThere)
	}
	checkFalse(t, what+": another root", turned(want, 127), ix, p)
}

// checkFalse: a proof may be, but leads elsewhere.
func checkFalse(t *testing.T, what, root, ix string, p api.Proof) {
	t.Helper()
	commit, there, err := proof.Verify(root, ix, p)
	check(t, what, err, api.ErrFalse)
	if commit != "" || there {
		t.Errorf("%s: Verify tells %x, %v beside an error", what, commit, there)
	}
}

// checkWrong: a proof may not be, whichever root is told: also the one to which it would lead.
func checkWrong(t *testing.T, what, ix string, p api.Proof) {
	t.Helper()
	if proof.Right(ix, p) {
		t.Errorf("%s: Right is true", what)
	}
	root, err := proof.Root(ix, p)
	check(t, what+": Root", err, api.ErrArg)
	if root != "" {
		t.Errorf("%s: Root tells %x beside an error", what, root)
	}
	roots := []string{drawn(50), ""}
	if len(ix) == api.MarkSize && len(p.Path) <= api.Depth {
		roots = append(roots, otherRoot(bitsOf(ix), p, 0))
	}
	for _, root := range roots {
		commit, there, err := proof.Verify(root, ix, p)
		check(t, what+": Verify", err, api.ErrArg)
		if commit != "" || there {
			t.Errorf("%s: Verify tells %x, %v beside an error", what, commit, there)
		}
	}
}

// TestEachLength: 4.1: a way of each length, at its end nothing, the index itself, or another one that is alike as far as the way goes, or farther.
func TestEachLength(t *testing.T) {
	for n := range api.Depth + 1 {
		for i, ix := range indexes() {
			what := fmt.Sprintf("%d marks, index %d", n, i)
			checkRight(t, what+", nothing", ix, api.Proof{Path: path(n)})
			checkRight(t, what+", itself", ix, api.Proof{Path: path(n), Leaf: api.Item{Index: ix, Commit: commitA}})
			for _, k := range []int{n, n + 1, 127} {
				if n <= k && k < api.Depth {
					checkRight(t, fmt.Sprint(what, ", alike in ", k), ix, api.Proof{Path: path(n), Leaf: api.Item{Index: turned(ix, k), Commit: commitB}})
				}
			}
			for _, k := range []int{0, n / 2, n - 1} {
				if 0 <= k && k < n {
					checkWrong(t, fmt.Sprint(what, ", alike only in ", k), ix, api.Proof{Path: path(n), Leaf: api.Item{Index: turned(ix, k), Commit: commitB}})
				}
			}
		}
	}
}

// TestTooLong: 4.1: more than 128 marks are not Right, whatever lies at the way's end.
func TestTooLong(t *testing.T) {
	for _, n := range []int{129, 130, 256, 1000} {
		for _, ix := range indexes() {
			checkWrong(t, fmt.Sprint(n, " marks, nothing"), ix, api.Proof{Path: path(n)})
			checkWrong(t, fmt.Sprint(n, " marks, itself"), ix, api.Proof{Path: path(n), Leaf: api.Item{Index: ix, Commit: commitA}})
		}
	}
}

// TestNotMarks: 4.1: the index, each of the way, and both of a leaf are MARKs, or it is not Right.
func TestNotMarks(t *testing.T) {
	for _, bad := range notMarks() {
		for _, n := range []int{0, 1, 2, 7, 128} {
			what, ix := fmt.Sprintf("%q, %d marks", bad, n), drawn(6)
			good := api.Item{Index: ix, Commit: commitA}
			checkWrong(t, what+", the index", bad, api.Proof{Path: path(n)})
			checkWrong(t, what+", the index of a leaf", bad, api.Proof{Path: path(n), Leaf: good})
			checkWrong(t, what+", both indexes", bad, api.Proof{Path: path(n), Leaf: api.Item{Index: bad, Commit: commitA}})
			checkWrong(t, what+", the leaf's index", ix, api.Proof{Path: path(n), Leaf: api.Item{Index: bad, Commit: commitA}})
			checkWrong(t, what+", the leaf's commit", ix, api.Proof{Path: path(n), Leaf: api.Item{Index: ix, Commit: bad}})
			for _, at := range []int{0, n / 2, n - 1} {
				if 0 <= at && at < n {
					l := path(n)
					l[at] = bad
					checkWrong(t, fmt.Sprint(what, ", that of number ", at), ix, api.Proof{Path: l, Leaf: good})
					checkWrong(t, fmt.Sprint(what, ", that of number ", at, ", no leaf"), ix, api.Proof{Path: l})
				}
			}
		}
	}
}

// TestFewMarks: 4.1: the roots of the shortest ways, told by hand: e, l and n, and which side the mark beside the way is on.
func TestFewMarks(t *testing.T) {
	x, y := zeros(), turned(zeros(), 0)
	leafX, leafY := api.Item{Index: x, Commit: commitA}, api.Item{Index: y, Commit: commitB}
	a, b := drawn(7), drawn(8)
	for _, c := range []struct {
		what, ix string
		p        api.Proof
		want     string
	}{
		{"nothing at 0", x, api.Proof{}, otherMark('e', num(0))},
		{"a leaf at 0", x, api.Proof{Leaf: leafX}, otherMark('l', num(0), x, commitA)},
		{"another one's leaf at 0", y, api.Proof{Path: []string{}, Leaf: leafX}, otherMark('l', num(0), x, commitA)},
		{"bit 0 is 0", x, api.Proof{Path: []string{a}, Leaf: leafX}, otherMark('n', otherMark('l', num(1), x, commitA), a)},
		{"bit 0 is 1", y, api.Proof{Path: []string{a}, Leaf: leafY}, otherMark('n', a, otherMark('l', num(1), y, commitB))},
		{"bits 1, 0, nothing", y, api.Proof{Path: []string{a, b}}, otherMark('n', a, otherMark('n', otherMark('e', num(2)), b))},
		{"bits 0, 1, nothing", turned(x, 1), api.Proof{Path: []string{a, b}}, otherMark('n', otherMark('n', b, otherMark('e', num(2))), a)},
	} {
		got, err := proof.Root(c.ix, c.p)
		check(t, c.what, err, api.OK)
		if got != c.want {
			t.Errorf("%s: Root is %x, not %x", c.what, got, c.want)
		}
	}
}

// truth is what lies at an index, looked up.
func truth(l []api.Item, ix string) (string, bool) {
	for _, x := range l {
		if x.Index == ix {
			return x.Commit, true
		}
	}
	return "", false
}

// TestWhatIsProved: 4.1 with 3.2: what is there is proved, with its commit, and so is that nothing is.
func TestWhatIsProved(t *testing.T) {
	for n, l := range lists() {
		root, _ := trie.Root(l)
		for _, ix := range asked(l) {
			p, _ := trie.Prove(l, ix)
			what := fmt.Sprintf("list %d, %x", n, ix)
			checkRight(t, what, ix, p)
			if got, _ := proof.Root(ix, p); got != root {
				t.Errorf("%s: Root is %x, not the items' %x", what, got, root)
			}
			wantCommit, wantThere := truth(l, ix)
			commit, there, err := proof.Verify(root, ix, p)
			check(t, what, err, api.OK)
			if commit != wantCommit || there != wantThere {
				t.Errorf("%s: Verify tells %x, %v, not %x, %v", what, commit, there, wantCommit, wantThere)
			}
		}
	}
}

// forged are other proofs than one: of other leaves, of other marks, longer and shorter ones.
func forged(l []api.Item, ix string, p api.Proof) []api.Proof {
	leaves := []api.Item{{}, {Index: ix, Commit: commitA}, {Index: turned(ix, 127), Commit: commitA}, {Index: ix}, {Commit: commitA}}
	if p.Leaf.Commit != "" {
		leaves = append(leaves, api.Item{Index: ix, Commit: p.Leaf.Commit}, api.Item{Index: p.Leaf.Index, Commit: turned(p.Leaf.Commit, 0)}, api.Item{Index: p.Leaf.Commit, Commit: p.Leaf.Index})
	}
	leaves = append(leaves, l[:min(len(l), 5)]...)
	all := []api.Proof{{Leaf: p.Leaf}, {Path: append(slices.Clone(p.Path), drawn(9)), Leaf: p.Leaf}, {Path: append(slices.Clone(p.Path), trie.Empty(len(p.Path)+1)), Leaf: p.Leaf}}
	for _, x := range leaves {
		all = append(all, api.Proof{Path: p.Path, Leaf: x}, api.Proof{Leaf: x}, api.Proof{Path: p.Path[:len(p.Path)/2], Leaf: x})
	}
	for _, at := range []int{0, len(p.Path) / 2, len(p.Path) - 1} {
		if at < 0 || at >= len(p.Path) {
			continue
		}
		other := slices.Clone(p.Path)
		other[at] = turned(other[at], 0)
		turnedRound := slices.Clone(p.Path)
		slices.Reverse(turnedRound[at:])
		for _, path := range [][]string{other, turnedRound, p.Path[:at], slices.Delete(slices.Clone(p.Path), at, at+1), slices.Insert(slices.Clone(p.Path), at, drawn(10))} {
			all = append(all, api.Proof{Path: path, Leaf: p.Leaf}, api.Proof{Path: path})
		}
	}
	return all
}

// TestNothingElseIsProved: 4.1: another proof is refused, or tells the truth: no item is hidden, none is made up, none changed.
func TestNothingElseIsProved(t *testing.T) {
	for n, l := range lists() {
		root, _ := trie.Root(l)
		for i, ix := range asked(l) {
			p, _ := trie.Prove(l, ix)
			wantCommit, wantThere := truth(l, ix)
			for k, f := range forged(l, ix, p) {
				commit, there, err := proof.Verify(root, ix, f)
				if same := slices.Equal(f.Path, p.Path) && f.Leaf == p.Leaf; same != (err == nil) {
					t.Errorf("list %d, index %d, forged %d: error %d", n, i, k, api.Tell(err))
				} else if err != nil && (commit != "" || there) || err == nil && (commit != wantCommit || there != wantThere) {
					t.Errorf("list %d, index %d, forged %d: Verify tells %x, %v", n, i, k, commit, there)
				}
			}
		}
	}
}

// TestProofOfAnother: 4.1: a proof made of one index is one of another, if that goes the same way, and of no other.
func TestProofOfAnother(t *testing.T) {
	l := comb(drawn(5), 9)
	root, _ := trie.Root(l)
	for _, x := range l {
		p, _ := trie.Prove(l, x.Index)
		for k := range api.Depth {
			ix := turned(x.Index, k)
			commit, there, err := proof.Verify(root, ix, p)
			if k < len(p.Path) {
				check(t, "on another way", err, api.ErrArg)
			} else {
				check(t, "on the same way", err, api.OK)
			}
			if commit != "" || there {
				t.Errorf("a proof of %x tells %x, %v of %x", x.Index, commit, there, ix)
			}
		}
	}
}

// TestOtherRoots: 4.1: a root that is another one, or no MARK, is none to which a proof leads.
func TestOtherRoots(t *testing.T) {
	l := comb(drawn(5), 9)
	root, _ := trie.Root(l)
	for _, ix := range []string{l[3].Index, turned(l[3].Index, 127), zeros()} {
		p, _ := trie.Prove(l, ix)
		for k := range api.Depth {
			checkFalse(t, "another bit", turned(root, k), ix, p)
		}
		for _, other := range append(notMarks(), root[:15], root+"\x00", root+root, root[1:]) {
			checkFalse(t, "no root", other, ix, p)
		}
		emptyRoot, _ := trie.Root(nil)
		checkFalse(t, "the root of no items", emptyRoot, ix, p)
	}
}

// TestCommit: 4.2: a mark of kind c, of an opening that is a MARK, and a value of 1 to MaxValue bytes, whatever they are.
func TestCommit(t *testing.T) {
	for _, opening := range indexes() {
		for n := 1; n <= api.MaxValue; n++ {
			for _, value := range []string{strings.Repeat("v", n), strings.Repeat("\x00", n), strings.Repeat("\xff", n), strings.Repeat(" ", n), strings.Repeat("ä", n)[:n]} {
				got, err := proof.Commit(opening, value)
				check(t, fmt.Sprintf("Commit of %q", value), err, api.OK)
				if want := otherMark('c', opening, value); got != want {
					t.Errorf("Commit of %x and %q is %x, not %x", opening, value, got, want)
				}
			}
		}
	}
}

// TestCommitWrong: 4.2: ErrArg of what is no opening, of no value, and of one of more than MaxValue bytes (bytes, not letters).
func TestCommitWrong(t *testing.T) {
	wrong := func(opening, value string) {
		t.Helper()
		got, err := proof.Commit(opening, value)
		check(t, fmt.Sprintf("Commit of %x and %.40q", opening, value), err, api.ErrArg)
		if got != "" {
			t.Errorf("Commit of %x and %.40q tells %x beside an error", opening, value, got)
		}
	}
	for _, value := range []string{"", strings.Repeat("v", api.MaxValue+1), strings.Repeat("\x00", api.MaxValue+1), strings.Repeat("ä", 13), strings.Repeat("v", 100_000)} {
		for _, opening := range append(notMarks(), indexes()...) {
			wrong(opening, value)
		}
	}
	for _, bad := range notMarks() {
		for _, value := range []string{"v", strings.Repeat("v", api.MaxValue)} {
			wrong(bad, value)
		}
	}
}

// TestCommitBinds: 4.2: another opening or another value has another commit, and the same ones the same one.
func TestCommitBinds(t *testing.T) {
	seen := map[string]string{}
	openings := []string{zeros(), ones(), drawn(1)}
	for k := range api.Depth {
		openings = append(openings, turned(drawn(1), k))
	}
	for _, opening := range openings {
		for _, value := range []string{"v", "w", "V", "vv", "v\x00", "\x00", "\x00\x00", "vw", "wv", strings.Repeat("v", api.MaxValue), strings.Repeat("v", api.MaxValue-1) + "w"} {
			commit, _ := proof.Commit(opening, value)
			what := fmt.Sprintf("%x and %q", opening, value)
			if was, ok := seen[commit]; ok {
				t.Errorf("%s and %s have one commit", was, what)
			}
			seen[commit] = what
			if again, _ := proof.Commit(opening, value); again != commit {
				t.Errorf("Commit of %s is %x, then %x", what, commit, again)
			}
		}
	}
}

// TestLeavesPaths: P4: neither a path nor what stands behind its length is written into, and no answer changes with it.
func TestLeavesPaths(t *testing.T) {
	for n := range api.Depth + 1 {
		all := append(path(n), "behind", "it")
		was, ix := slices.Clone(all), drawn(11)
		p := api.Proof{Path: all[:n], Leaf: api.Item{Index: ix, Commit: commitA}}
		proof.Right(ix, p)
		root, _ := proof.Root(ix, p)
		commit, _, _ := proof.Verify(root, ix, p)
		proof.Verify(ix, ix, p)
		if !slices.Equal(all, was) || p.Leaf != (api.Item{Index: ix, Commit: commitA}) {
			t.Fatalf("%d marks: the proof is now %q", n, p)
		}
		want := otherRoot(bitsOf(ix), p, 0)
		for i := range all {
			all[i] = "written"
		}
		if root != want || commit != commitA {
			t.Errorf("%d marks: the answers have changed with the path", n)
		}
	}
}

// TestAgain: P4: what a call answers hangs on its arguments alone, not on the calls before.
func TestAgain(t *testing.T) {
	l := scattered(9)
	itemsRoot, _ := trie.Root(l)
	p, _ := trie.Prove(l, l[2].Index)
	ask := func() string {
		root, err := proof.Root(l[2].Index, p)
		commit, there, wrong := proof.Verify(itemsRoot, l[2].Index, p)
		c, _ := proof.Commit(drawn(1), "value")
		return fmt.Sprintf("%q", []any{proof.Right(l[2].Index, p), root, api.Tell(err), commit, there, api.Tell(wrong), c})
	}
	first := ask()
	for n := range 60 {
		other := api.Proof{Path: path(n), Leaf: api.Item{Index: drawn(n), Commit: commitB}}
		proof.Right(drawn(n), other)
		proof.Root(drawn(n+1), other)
		proof.Verify(drawn(n), drawn(n), other)
		proof.Commit(drawn(n), strings.Repeat("v", n))
		if again := ask(); again != first {
			t.Fatalf("at first %s, then %s", first, again)
		}
	}
}

func BenchmarkVerify(b *testing.B) {
	l := comb(drawn(1), 3)
	root, _ := trie.Root(l)
	p, _ := trie.Prove(l, drawn(1))
	for b.Loop() {
		proof.Verify(root, drawn(1), p)
	}
}
