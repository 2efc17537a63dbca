package chain_test

import (
	"crypto/sha256"
	"encoding/binary"
	"errors"
	"fmt"
	"math"
	"slices"
	"strings"
	"testing"

	"rollkeeper/api"
	"rollkeeper/chain"
)

// otherMark is a mark by the library's sum, its text laid out part by part.
func otherMark(kind byte, parts ...string) string {
	text := []byte{kind}
	for _, p := range parts {
		text = binary.BigEndian.AppendUint64(text, uint64(len(p)))
		text = append(text, p...)
	}
	h := sha256.Sum256(text)
	return string(h[:16])
}

// num is a number as eight bytes.
func num(n int) string { return string(binary.BigEndian.AppendUint64(nil, uint64(n))) }

// markOf is a head's mark, by the library's sum, whether it may be or not.
func markOf(h api.Head) string { return otherMark('h', num(h.Epoch), h.Root, h.Prev) }

// drawn is a mark that looks drawn, the same each time.
func drawn(seed int) string {
	b := make([]byte, api.MarkSize)
	x := uint32(seed)*2654435761 + 1
	for i := range b {
		x = x*1664525 + 1013904223
		b[i] = byte(x >> 24)
	}
	return string(b)
}

// turned is a mark with another bit k.
func turned(mark string, k int) string {
	b := []byte(mark)
	b[k/8] ^= 0x80 >> (k % 8)
	return string(b)
}

// zeros and ones are the least and the greatest mark.
func zeros() string { return strings.Repeat("\x00", api.MarkSize) }

func ones() string { return strings.Repeat("\xff", api.MarkSize) }

// marks are some of every kind.
func marks() []string { return []string{zeros(), ones(), drawn(1), drawn(2), "abcdefghijklmnop"} }

// notMarks are texts of other sizes than a mark's.
func notMarks() []string {
	return []string{"", "\x00", strings.Repeat("\x00", 15), strings.Repeat("\xff", 17), strings.Repeat("a", 32), strings.Repeat("ä", 16)}
}

// epochs may be, and notEpochs may not.
func epochs() []int {
	return []int{1, 2, 3, 255, 256, 1 << 20, math.MaxInt32, math.MaxInt - 1, math.MaxInt}
}

func notEpochs() []int { return []int{0, -1, -2, math.MinInt32, math.MinInt + 1, math.MinInt} }

// wrongHeads are not Right, each in a way of its own.
func wrongHeads() []api.Head {
	l := []api.Head{{}, {Epoch: 1}, {Epoch: 1, Root: drawn(1)}, {Epoch: 1, Prev: drawn(1)}, {Root: drawn(1), Prev: chain.None}}
	for _, n := range notEpochs() {
		l = append(l, api.Head{Epoch: n, Root: drawn(1), Prev: chain.None})
	}
	for _, bad := range notMarks() {
		for _, n := range []int{1, 2, math.MaxInt} {
			l = append(l, api.Head{Epoch: n, Root: bad, Prev: drawn(2)}, api.Head{Epoch: n, Root: drawn(2), Prev: bad}, api.Head{Epoch: n, Root: bad, Prev: bad})
		}
	}
	return l
}

// links are a chain of these roots, made by hand.
func links(roots ...string) []api.Head {
	l := []api.Head{}
	prev := zeros()
	for i, root := range roots {
		h := api.Head{Epoch: i + 1, Root: root, Prev: prev}
		l, prev = append(l, h), markOf(h)
	}
	return l
}

// roots are so many, from a number on.
func roots(from, n int) []string {
	var l []string
	for i := range n {
		l = append(l, drawn(from+i))
	}
	return l
}

// others are a head's like, with one part of it another one.
func others(h api.Head) []api.Head {
	l := []api.Head{{}}
	for _, n := range []int{h.Epoch + 1, h.Epoch - 1, -h.Epoch - 1, h.Epoch ^ 1<<40} {
		l = append(l, api.Head{Epoch: n, Root: h.Root, Prev: h.Prev})
	}
	for _, k := range []int{0, 63, 127} {
		l = append(l, api.Head{Epoch: h.Epoch, Root: turned(h.Root, k), Prev: h.Prev}, api.Head{Epoch: h.Epoch, Root: h.Root, Prev: turned(h.Prev, k)})
	}
	return append(l, api.Head{Epoch: h.Epoch, Root: h.Root[:15], Prev: h.Prev}, api.Head{Epoch: h.Epoch, Root: h.Root, Prev: h.Prev + "\x00"},
		api.Head{Epoch: h.Epoch, Root: h.Prev, Prev: turned(h.Root, 5)})
}

// check: an error is just the one that is wanted, and tells no place.
func check(t *testing.T, what string, err error, want api.Errno) {
	t.Helper()
	if got := api.Tell(err); got != want {
		t.Errorf("%s: error %d, not %d", what, got, want)
	}
	var at *api.At
	if errors.As(err, &at) {
		t.Errorf("%s: the error tells place %d", what, at.Place)
	}
}

// checkNext: the head behind others is just that one.
func checkNext(t *testing.T, what string, l []api.Head, root string, want api.Head) {
	t.Helper()
	got, err := chain.Next(l, root)
	check(t, what, err, api.OK)
	if got != want {
		t.Errorf("%s: Next is %#v, not %#v", what, got, want)
	}
}

// checkNoNext: there is none behind others.
func checkNoNext(t *testing.T, what string, l []api.Head, root string) {
	t.Helper()
	got, err := chain.Next(l, root)
	check(t, what, err, api.ErrArg)
	if got != (api.Head{}) {
		t.Errorf("%s: Next tells %#v beside an error", what, got)
	}
}

// checkWhole: heads are a chain, or this one is the first that is not.
func checkWhole(t *testing.T, what string, l []api.Head, want int, wantWhole bool) {
	t.Helper()
	n, whole := chain.Whole(l)
	if n != want || whole != wantWhole {
		t.Errorf("%s: Whole is %d, %v, not %d, %v", what, n, whole, want, wantWhole)
	}
}

// checkParts: two lists are alike so far, whichever is told first.
func checkParts(t *testing.T, what string, a, b []api.Head, want int) {
	t.Helper()
	if got := chain.Parts(a, b); got != want {
		t.Errorf("%s: Parts is %d, not %d", what, got, want)
	}
	if got := chain.Parts(b, a); got != want {
		t.Errorf("%s, turned round: Parts is %d, not %d", what, got, want)
	}
}

// TestNone: 5.1: 16 bytes of 0.
func TestNone(t *testing.T) {
	if chain.None != zeros() {
		t.Errorf("None is %q", chain.None)
	}
}

// TestRight: 5.1: from epoch 1 on, of MARKs, and nothing else; its mark is of the kind h.
func TestRight(t *testing.T) {
	for _, n := range epochs() {
		for _, root := range marks() {
			for _, prev := range marks() {
				h := api.Head{Epoch: n, Root: root, Prev: prev}
				what := fmt.Sprintf("%#v", h)
				if !chain.Right(h) {
					t.Errorf("%s: Right is false", what)
				}
				mark, err := chain.Mark(h)
				check(t, what, err, api.OK)
				if mark != markOf(h) {
					t.Errorf("%s: Mark is %x, not %x", what, mark, markOf(h))
				}
			}
		}
	}
}

// TestNotRight: 5.1: an epoch below 1, or what is no MARK: it has no mark.
func TestNotRight(t *testing.T) {
	for _, h := range wrongHeads() {
		what := fmt.Sprintf("%#v", h)
		if chain.Right(h) {
			t.Errorf("%s: Right is true", what)
		}
		mark, err := chain.Mark(h)
		check(t, what, err, api.ErrArg)
		if mark != "" {
			t.Errorf("%s: Mark tells %x beside an error", what, mark)
		}
	}
}

// TestAHeadIsKnown: 5.1: another epoch, root or head ahead is another mark; so are they in each other's place.
func TestAHeadIsKnown(t *testing.T) {
	seen := map[string]api.Head{}
	look := func(h api.Head) {
		mark, err := chain.Mark(h)
		check(t, fmt.Sprintf("%#v", h), err, api.OK)
		if was, ok := seen[mark]; ok {
			t.Errorf("%#v and %#v have one mark", was, h)
		}
		seen[mark] = h
	}
	for _, n := range epochs() {
		look(api.Head{Epoch: n, Root: drawn(1), Prev: drawn(2)})
		look(api.Head{Epoch: n, Root: drawn(2), Prev: drawn(1)})
		for k := range api.Depth {
			look(api.Head{Epoch: n, Root: turned(drawn(1), k), Prev: drawn(2)})
			look(api.Head{Epoch: n, Root: drawn(1), Prev: turned(drawn(2), k)})
		}
	}
}

// TestNextOfNone: 5.1: the first head is of epoch 1, behind None; what is no MARK is no root of it.
func TestNextOfNone(t *testing.T) {
	for _, none := range [][]api.Head{nil, {}, links(roots(1, 3)...)[:0]} {
		for _, root := range marks() {
			checkNext(t, fmt.Sprintf("%x", root), none, root, api.Head{Epoch: 1, Root: root, Prev: zeros()})
		}
		for _, bad := range notMarks() {
			checkNoNext(t, fmt.Sprintf("%q", bad), none, bad)
		}
	}
}

// TestNext: 5.1: the head behind others has the last one's epoch and one, and its mark; what is no MARK is no root of it.
func TestNext(t *testing.T) {
	for n := 1; n <= 40; n++ {
		all := links(roots(10, n+1)...)
		checkNext(t, fmt.Sprint("behind ", n), all[:n], drawn(10+n), all[n])
		last := all[n-1]
		for _, root := range marks() {
			want := api.Head{Epoch: n + 1, Root: root, Prev: markOf(last)}
			checkNext(t, fmt.Sprintf("behind %d, %x", n, root), all[:n], root, want)
		}
		for _, bad := range notMarks() {
			checkNoNext(t, fmt.Sprintf("behind %d, %q", n, bad), all[:n], bad)
		}
	}
}

// TestNextLooksAtTheLast: 5.1: the last head alone tells what comes behind: it may be of any epoch, and those ahead of it may be anything.
func TestNextLooksAtTheLast(t *testing.T) {
	for _, n := range epochs() {
		last := api.Head{Epoch: n, Root: drawn(3), Prev: drawn(4)}
		for i, ahead := range [][]api.Head{nil, links(roots(1, 3)...), {last}, wrongHeads()} {
			what, l := fmt.Sprintf("behind epoch %d, list %d", n, i), append(ahead, last)
			if n == math.MaxInt {
				checkNoNext(t, what, l, drawn(5))
				continue
			}
			checkNext(t, what, l, drawn(5), api.Head{Epoch: n + 1, Root: drawn(5), Prev: markOf(last)})
		}
	}
}

// TestNextOfWrong: 5.1: behind a head that may not be there is none, whatever is ahead of it.
func TestNextOfWrong(t *testing.T) {
	for _, last := range wrongHeads() {
		for _, ahead := range [][]api.Head{nil, links(roots(1, 4)...)} {
			for _, root := range append(marks(), notMarks()...) {
				checkNoNext(t, fmt.Sprintf("behind %#v, %q", last, root), append(ahead, last), root)
			}
		}
	}
}

// TestWhole: 5.1: chains of none, of one, of many are whole; so is what Next makes, head by head.
func TestWhole(t *testing.T) {
	checkWhole(t, "nil", nil, 0, true)
	all := links(roots(30, 100)...)
	made := []api.Head{}
	for n := range len(all) + 1 {
		checkWhole(t, fmt.Sprint(n, " heads"), all[:n], 0, true)
		checkWhole(t, fmt.Sprint(n, " heads that Next made"), made, 0, true)
		h, err := chain.Next(made, drawn(30+n))
		check(t, fmt.Sprint("behind ", n), err, api.OK)
		made = append(made, h)
	}
	for _, root := range marks() {
		checkWhole(t, fmt.Sprintf("%x alone", root), links(root), 0, true)
		checkWhole(t, fmt.Sprintf("%x over and over", root), links(root, root, root, root), 0, true)
	}
}

// with is a list with another head in a place.
func with(l []api.Head, at int, h api.Head) []api.Head {
	l = slices.Clone(l)
	l[at] = h
	return l
}

// TestLinkByLink: 5.1: a head that is another one is found; another root is its own, so that the one behind it is the first that is not.
func TestLinkByLink(t *testing.T) {
	for _, n := range []int{1, 2, 3, 8, 20} {
		all := links(roots(50, n)...)
		for at, h := range all {
			for _, x := range others(h) {
				what := fmt.Sprintf("of %d heads number %d is %#v", n, at, x)
				switch {
				case x.Epoch != h.Epoch || x.Prev != h.Prev || len(x.Root) != api.MarkSize:
					checkWhole(t, what, with(all, at, x), at, false)
				case at == n-1:
					checkWhole(t, what, with(all, at, x), 0, true)
				default:
					checkWhole(t, what, with(all, at, x), at+1, false)
				}
			}
			for _, x := range wrongHeads() {
				checkWhole(t, fmt.Sprintf("of %d heads number %d is %#v", n, at, x), with(all, at, x), at, false)
			}
		}
	}
}

// TestOtherOrders: 5.1: a head that is left out, told twice, or told out of order is found, and the first of several is told.
func TestOtherOrders(t *testing.T) {
	all := links(roots(70, 12)...)
	for at := range all {
		if at < len(all)-1 {
			checkWhole(t, fmt.Sprint("without number ", at), slices.Delete(slices.Clone(all), at, at+1), at, false)
			checkWhole(t, fmt.Sprint("without all up to number ", at), all[at+1:], 0, false)
		}
		checkWhole(t, fmt.Sprint("number ", at, " twice"), slices.Insert(slices.Clone(all), at, all[at]), at+1, false)
		for to := at + 1; to < len(all); to++ {
			l := slices.Clone(all)
			l[at], l[to] = l[to], l[at]
			checkWhole(t, fmt.Sprintf("numbers %d and %d changed round", at, to), l, at, false)
			checkWhole(t, fmt.Sprintf("numbers %d and %d empty", at, to), with(with(all, at, api.Head{}), to, api.Head{}), at, false)
		}
	}
}

// TestWrongFirst: 5.1: the first head is of epoch 1, behind None.
func TestWrongFirst(t *testing.T) {
	for _, first := range []api.Head{{Epoch: 2, Root: drawn(1), Prev: zeros()}, {Epoch: 0, Root: drawn(1), Prev: zeros()}, {Epoch: 1, Root: drawn(1), Prev: ones()}, {Epoch: 1, Root: drawn(1), Prev: drawn(1)},
		{Epoch: math.MaxInt, Root: drawn(1), Prev: zeros()}, {Epoch: math.MinInt, Root: drawn(1), Prev: zeros()}, {Epoch: 1, Root: drawn(1), Prev: turned(zeros(), 127)}} {
		second := api.Head{Epoch: first.Epoch + 1, Root: drawn(2), Prev: markOf(first)}
		checkWhole(t, fmt.Sprintf("%#v", first), []api.Head{first}, 0, false)
		checkWhole(t, fmt.Sprintf("%#v, and one behind it", first), []api.Head{first, second}, 0, false)
	}
}

// TestParts: 5.1: each beginning of a list is alike with the list, and no more of it than there is.
func TestParts(t *testing.T) {
	all := append(links(roots(90, 9)...), wrongHeads()...)
	checkParts(t, "nil", nil, nil, 0)
	for n := range len(all) + 1 {
		for m := range len(all) + 1 {
			checkParts(t, fmt.Sprintf("%d and %d of the same", n, m), all[:n], slices.Clone(all[:m]), min(n, m))
		}
	}
}

// TestPartsAnywhere: 5.1: one head that is another one parts two lists, though all behind it are alike, and whether they may be or not.
func TestPartsAnywhere(t *testing.T) {
	for _, n := range []int{1, 2, 3, 10} {
		all := links(roots(110, n)...)
		for at, h := range all {
			for _, x := range others(h) {
				what := fmt.Sprintf("of %d heads number %d is %#v", n, at, x)
				checkParts(t, what, all, with(all, at, x), at)
				checkParts(t, what+", and it is the last one", all, with(all, at, x)[:at+1], at)
				checkParts(t, what+", and it is left out", with(all, at, x), slices.Delete(slices.Clone(all), at, at+1), at)
			}
		}
	}
}

// TestWhoPartsNeverMeets: 5.1: two chains that part have no head in common behind that, though their roots are the same again.
func TestWhoPartsNeverMeets(t *testing.T) {
	for n := 1; n <= 12; n++ {
		for at := range n {
			ra := roots(130, n)
			rb := slices.Clone(ra)
			rb[at] = drawn(200)
			a, b := links(ra...), links(rb...)
			what := fmt.Sprintf("%d heads, another root in number %d", n, at)
			checkWhole(t, what, a, 0, true)
			checkWhole(t, what, b, 0, true)
			checkParts(t, what, a, b, at)
			for i, h := range b {
				if chain.Has(a, h) != (i < at) {
					t.Errorf("%s: Has of number %d is %v", what, i, i >= at)
				}
			}
		}
	}
}

// TestHas: 5.1: each head of a list is one of it, wherever it is, and no other one, also if it is the empty one.
func TestHas(t *testing.T) {
	all := append(links(roots(150, 20)...), wrongHeads()[1:]...)
	for n := range len(all) + 1 {
		for i, h := range all {
			first := slices.Index(all, h) // some are there twice
			if got := chain.Has(all[:n], h); got != (first < n) {
				t.Errorf("of %d heads, number %d: Has is %v", n, i, got)
			}
		}
		if chain.Has(all[:n], api.Head{}) {
			t.Errorf("of %d heads: Has of the empty one is true", n)
		}
	}
	chained := links(roots(150, 20)...)
	for _, h := range chained {
		for _, x := range others(h) {
			if chain.Has(chained, x) {
				t.Errorf("Has of %#v is true", x)
			}
		}
	}
	if chain.Has(nil, api.Head{}) || !chain.Has([]api.Head{{}}, api.Head{}) || !chain.Has(append(chained, api.Head{}), api.Head{}) {
		t.Error("Has of the empty head hangs on something else than the list")
	}
}

// TestLeavesLists: P4: neither a list nor what stands behind its length is written into, and no answer changes with it.
func TestLeavesLists(t *testing.T) {
	all := links(roots(170, 12)...)
	was := slices.Clone(all)
	for n := range len(all) {
		other := with(all, n, api.Head{Epoch: n})
		otherWas := slices.Clone(other)
		chain.Next(all[:n], drawn(1))
		chain.Next(all[:n], "")
		chain.Next(other[:n+1], drawn(1))
		chain.Whole(all[:n])
		chain.Whole(other)
		chain.Parts(all[:n], other)
		chain.Has(all[:n], other[n])
		if !slices.Equal(all, was) || !slices.Equal(other, otherWas) {
			t.Fatalf("behind %d: the lists are now %#v and %#v", n, all, other)
		}
		written := slices.Clone(all)
		h, _ := chain.Next(written[:n], all[n].Root)
		clear(written)
		if h != all[n] {
			t.Errorf("behind %d: the answer has changed with the list", n)
		}
	}
}

// TestAgain: P4: what a call answers hangs on its arguments alone, not on the calls before.
func TestAgain(t *testing.T) {
	a, b := links(roots(190, 7)...), links(roots(193, 4)...)
	ask := func() string {
		mark, err := chain.Mark(a[3])
		next, wrong := chain.Next(a, drawn(1))
		n, whole := chain.Whole(a)
		m, parted := chain.Whole(append(slices.Clone(a), b...))
		return fmt.Sprintf("%q", []any{chain.Right(a[3]), mark, api.Tell(err), next, api.Tell(wrong), n, whole, m, parted, chain.Parts(a, b), chain.Has(a, b[0]), chain.Has(b, b[0])})
	}
	first := ask()
	for n := range 60 {
		other := append(links(roots(n, n)...), wrongHeads()[n%5])
		chain.Right(other[0])
		chain.Mark(other[n])
		chain.Mark(other[0])
		chain.Next(other, drawn(n))
		chain.Next(other[:n], drawn(n))
		chain.Whole(other)
		chain.Parts(other, a)
		chain.Has(other, a[3])
		if again := ask(); again != first {
			t.Fatalf("at first %s, then %s", first, again)
		}
	}
}

func BenchmarkWhole(b *testing.B) {
	l := links(roots(1, 1000)...)
	for b.Loop() {
		chain.Whole(l)
	}
}
