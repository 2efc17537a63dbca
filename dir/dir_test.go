package dir_test

import (
	"crypto/sha256"
	"encoding/binary"
	"errors"
	"fmt"
	"maps"
	"slices"
	"strings"
	"testing"

	"rollkeeper/api"
	"rollkeeper/chain"
	"rollkeeper/dir"
	"rollkeeper/proof"
	"rollkeeper/seal"
)

// otherMark is a mark by the library's sum, its text laid out part by part.
func otherMark(kind byte, parts ...string) string {
	text := []byte{kind}
	for _, p := range parts {
		text = binary.BigEndian.AppendUint64(text, uint64(len(p)))
		text = append(text, p...)
	}
	h := sha256.Sum256(text)
	return string(h[:16])
}

// num is a number as eight bytes.
func num(n int) string { return string(binary.BigEndian.AppendUint64(nil, uint64(n))) }

// die: numbers that look drawn, the same each time.
type die uint64

func (d *die) n(most int) int {
	*d = *d*6364136223846793005 + 1442695040888963407
	return int(uint64(*d>>33) % uint64(most))
}

// drawn is a mark that looks drawn, the same each time.
func drawn(seed int) string {
	d := die(seed)
	b := make([]byte, api.MarkSize)
	for i := range b {
		b[i] = byte(d.n(256))
	}
	return string(b)
}

// secrets are marks of every kind.
func secrets() []string {
	return []string{strings.Repeat("\x00", 16), strings.Repeat("\xff", 16), "0123456789abcdef", drawn(1)}
}

// notMarks are texts of other sizes than a mark's.
func notMarks() []string {
	return []string{"", "\x00", strings.Repeat("\x00", 15), strings.Repeat("\xff", 17), strings.Repeat("a", 32), strings.Repeat("ä", 16)}
}

// names are some that may be, the shortest and the longest too.
func names() []string {
	return []string{"ann", "bob", "a", "z", "abcdefghijkl", "z99999999999", "n0", "n00"}
}

// notNames are texts that may be none.
func notNames() []string {
	return []string{"", "Ann", "1a", "abcdefghijklm", "a b", " ann", "ann ", "ann\x00", "\x00", "ä", "annä", "a-b", "a{", "`a", "a/", "a:", strings.Repeat("a", 1000)}
}

// values are some that may be: any bytes, one and 24 too.
func values() []string {
	return []string{"v", "\x00", " ", "\n", strings.Repeat("x", 24), strings.Repeat("\xff", 24), strings.Repeat("ä", 12), "ann"}
}

// notValues are texts that may be none.
func notValues() []string {
	return []string{"", strings.Repeat("x", 25), strings.Repeat("\x00", 25), strings.Repeat("ä", 13), strings.Repeat("x", 280)}
}

// many are n names, beginning with number from.
func many(from, n int) []string {
	var l []string
	for i := range n {
		l = append(l, fmt.Sprint("m", from+i))
	}
	return l
}

// check: an error is just the one that is wanted, and tells no place.
func check(t *testing.T, what string, err error, want api.Errno) {
	t.Helper()
	if got := api.Tell(err); got != want {
		t.Errorf("%s: error %d, not %d", what, got, want)
	}
	var at *api.At
	if errors.As(err, &at) {
		t.Errorf("%s: the error tells place %d", what, at.Place)
	}
}

// sameSigned says whether two heads and their seals are the same.
func sameSigned(a, b api.Signed) bool {
	return a.Head == b.Head && a.Seal.Key == b.Seal.Key && slices.Equal(a.Seal.Sig, b.Seal.Sig) && slices.Equal(a.Seal.Path, b.Seal.Path)
}

// sameAnswer says whether two answers are the same.
func sameAnswer(a, b api.Answer) bool {
	return sameSigned(a.Signed, b.Signed) && slices.Equal(a.Proof.Path, b.Proof.Path) && a.Proof.Leaf == b.Proof.Leaf && a.Opening == b.Opening && a.Value == b.Value
}

// copied is an answer with lists of its own.
func copied(a api.Answer) api.Answer {
	a.Signed = copiedSigned(a.Signed)
	a.Proof.Path = slices.Clone(a.Proof.Path)
	return a
}

func copiedSigned(s api.Signed) api.Signed {
	s.Seal.Sig, s.Seal.Path = slices.Clone(s.Seal.Sig), slices.Clone(s.Seal.Path)
	return s
}

// scribble writes into lists, and behind their lengths.
func scribble(lists ...[]string) {
	for _, l := range lists {
		l = l[:cap(l)]
		for i := range l {
			l[i] = "written"
		}
	}
}

// bitOf is an index's bit.
func bitOf(ix string, k int) int { return int(ix[k/8]) >> (7 - k%8) & 1 }

// side are the items whose bit at a depth is that.
func side(l []api.Item, depth, bit int) []api.Item {
	return slices.DeleteFunc(slices.Clone(l), func(x api.Item) bool { return bitOf(x.Index, depth) != bit })
}

// over is the mark of items at a depth.
func over(l []api.Item, depth int) string {
	switch len(l) {
	case 0:
		return otherMark('e', num(depth))
	case 1:
		return otherMark('l', num(depth), l[0].Index, l[0].Commit)
	}
	return otherMark('n', over(side(l, depth, 0), depth+1), over(side(l, depth, 1), depth+1))
}

// leads is what leads to an index.
func leads(l []api.Item, ix string) api.Proof {
	var p api.Proof
	for depth := 0; len(l) > 1; depth++ {
		p.Path = append(p.Path, over(side(l, depth, 1-bitOf(ix, depth)), depth+1))
		l = side(l, depth, bitOf(ix, depth))
	}
	if len(l) == 1 {
		p.Leaf = l[0]
	}
	return p
}

// opened is a value, and what opens its commit.
type opened struct{ opening, value string }

// twin is a directory, and beside it what it must tell, by the library's sum.
type twin struct {
	t      *testing.T
	secret string
	d      *dir.Dir
	box    *seal.Box
	has    map[string]opened
	waits  map[string]string
	epochs []api.Signed
}

// newTwin is one of a secret that may be.
func newTwin(t *testing.T, secret string) *twin {
	t.Helper()
	d, err := dir.New(secret)
	check(t, fmt.Sprintf("New of %x", secret), err, api.OK)
	box, wrong := seal.New(otherMark('k', secret))
	check(t, fmt.Sprintf("the box of %x", secret), wrong, api.OK)
	if d == nil || box == nil {
		t.Fatalf("there is no directory of %x", secret)
	}
	return &twin{t: t, secret: secret, d: d, box: box, has: map[string]opened{}, waits: map[string]string{}}
}

// put lets a name wait, or is told just that error.
func (w *twin) put(name, value string, want api.Errno) {
	w.t.Helper()
	check(w.t, fmt.Sprintf("Put %q %q", name, value), w.d.Put(name, value), want)
	if want == api.OK {
		w.waits[name] = value
	}
}

// publish makes one more epoch, which must be just so, and tells what the directory told.
func (w *twin) publish() api.Signed {
	w.t.Helper()
	n := len(w.epochs) + 1
	for name, value := range w.waits {
		w.has[name] = opened{otherMark('o', w.secret, name, num(n)), value}
	}
	clear(w.waits)
	h := api.Head{Epoch: n, Root: over(w.items(), 0), Prev: strings.Repeat("\x00", 16)}
	if n > 1 {
		p := w.epochs[n-2].Head
		h.Prev = otherMark('h', num(p.Epoch), p.Root, p.Prev)
	}
	s, err := w.box.Sign(n-1, otherMark('h', num(n), h.Root, h.Prev))
	check(w.t, "the seal", err, api.OK)
	w.epochs = append(w.epochs, api.Signed{Head: h, Seal: s})
	got, err := w.d.Publish()
	check(w.t, fmt.Sprint("Publish ", n), err, api.OK)
	if !sameSigned(got, w.epochs[n-1]) {
		w.t.Errorf("Publish %d is %x, not %x", n, got, w.epochs[n-1])
	}
	return got
}

// items are those of all that names have, in no order.
func (w *twin) items() []api.Item {
	var l []api.Item
	for name, x := range w.has {
		l = append(l, api.Item{Index: otherMark('i', name), Commit: otherMark('c', x.opening, x.value)})
	}
	return l
}

// answer is what must be told of a name.
func (w *twin) answer(name string) api.Answer {
	x := w.has[name]
	return api.Answer{Signed: w.epochs[len(w.epochs)-1], Proof: leads(w.items(), otherMark('i', name)), Opening: x.opening, Value: x.value}
}

// look: all that is told is just so, of some names too.
func (w *twin) look(names ...string) {
	w.t.Helper()
	if w.d.Public() != w.box.Public() {
		w.t.Errorf("Public is %x, not %x", w.d.Public(), w.box.Public())
	}
	if got := w.d.Epochs(); !slices.EqualFunc(got, w.epochs, sameSigned) {
		w.t.Errorf("Epochs are %x, not %x", got, w.epochs)
	}
	for _, name := range names {
		got, err := w.d.Lookup(name)
		what := fmt.Sprintf("Lookup %q behind %d epochs", name, len(w.epochs))
		if len(w.epochs) == 0 {
			check(w.t, what, err, api.ErrState)
			if !sameAnswer(got, api.Answer{}) {
				w.t.Errorf("%s tells %x beside an error", what, got)
			}
			continue
		}
		check(w.t, what, err, api.OK)
		if want := w.answer(name); !sameAnswer(got, want) {
			w.t.Errorf("%s is %x, not %x", what, got, want)
		}
	}
}

// TestBounds: 8.1, 8.2: how much there may be.
func TestBounds(t *testing.T) {
	if api.MaxName != 12 || api.MaxValue != 24 || api.MaxItems != 60 || api.Keys != 8 {
		t.Errorf("names of %d, values of %d, %d names, %d epochs", api.MaxName, api.MaxValue, api.MaxItems, api.Keys)
	}
}

// TestNoDir: 8.1: of a secret of another size than 16 bytes there is no directory.
func TestNoDir(t *testing.T) {
	for _, bad := range append(notMarks(), drawn(1)[:15], drawn(1)+"\x00") {
		d, err := dir.New(bad)
		check(t, fmt.Sprintf("New of %q", bad), err, api.ErrArg)
		if d != nil {
			t.Errorf("New of %q tells a directory beside an error", bad)
		}
	}
}

// TestNew: 8.1: a new directory has no names and no epochs, and its box's public mark, which stays the same.
func TestNew(t *testing.T) {
	for _, secret := range secrets() {
		w := newTwin(t, secret)
		w.look(names()...)
		w.publish()
		w.look(names()...)
	}
}

// TestPut: 8.1: each name and each value that may be waits, and is told from the next epoch on.
func TestPut(t *testing.T) {
	for _, secret := range secrets() {
		w := newTwin(t, secret)
		for i, value := range values() {
			for k, name := range names() {
				if i == 0 || k%2 == i%2 {
					w.put(name, value, api.OK)
				}
			}
			w.look(names()...)
			w.publish()
			w.look(names()...)
		}
	}
}

// TestPutName: 8.1: what is no name is told first, whatever the value is, and though there is no room; nothing waits then.
func TestPutName(t *testing.T) {
	for _, n := range []int{0, 3, 60} {
		w := newTwin(t, drawn(2))
		for _, name := range many(0, n) {
			w.put(name, "v", api.OK)
		}
		for range 2 {
			for _, bad := range notNames() {
				for _, value := range append(values(), notValues()...) {
					w.put(bad, value, api.ErrName)
				}
			}
			w.publish()
			w.look(many(0, n+1)...)
		}
	}
}

// TestPutValue: 8.1: a value that may not be is told next, though there is no room; nothing is changed then.
func TestPutValue(t *testing.T) {
	for _, n := range []int{0, 3, 60} {
		w := newTwin(t, drawn(3))
		for _, name := range many(0, n) {
			w.put(name, "v", api.OK)
		}
		for range 2 {
			for _, name := range append(names(), many(0, n)...) {
				for _, bad := range notValues() {
					w.put(name, bad, api.ErrArg)
				}
			}
			w.publish()
			w.look(append(names(), many(0, n)...)...)
		}
	}
}

// TestPutFull: 8.1: there are 60 names at most, those that have a value and those that wait; one of both is one; each of them may be put again.
func TestPutFull(t *testing.T) {
	for _, n := range []int{0, 1, 30, 59, 60} {
		w := newTwin(t, drawn(4))
		for _, name := range many(0, n) {
			w.put(name, "first", api.OK)
		}
		w.publish()
		for _, name := range many(0, n/2) {
			w.put(name, "again", api.OK)
		}
		for _, name := range many(n, 60-n) {
			w.put(name, "second", api.OK)
		}
		for i := range 3 {
			for _, name := range append(names(), many(60, 3)...) {
				w.put(name, "more", api.ErrFull)
			}
			for k, name := range many(0, 60) {
				if k%2 == i%2 {
					w.put(name, fmt.Sprint("round ", i), api.OK)
				}
			}
			w.look(many(0, 63)...)
			w.publish()
			w.look(many(0, 63)...)
		}
	}
}

// TestPutLast: 8.1, 8.2: of several values of one name the last one is told, one that was there before too.
func TestPutLast(t *testing.T) {
	w := newTwin(t, drawn(5))
	for _, last := range []string{"one", "two", "one"} {
		for _, value := range append(values(), last) {
			w.put("ann", value, api.OK)
		}
		w.put("ann", "", api.ErrArg)
		w.publish()
		w.look("ann", "bob")
		a, err := w.d.Lookup("ann")
		check(t, "Lookup", err, api.OK)
		if a.Value != last {
			t.Errorf("the value is %q, not %q", a.Value, last)
		}
	}
}

// TestWaits: 8.1, 8.2: what waits is not told: of a new name there is nothing yet, of another one what it had.
func TestWaits(t *testing.T) {
	w := newTwin(t, drawn(6))
	w.put("ann", "old", api.OK)
	w.publish()
	w.put("ann", "new", api.OK)
	w.put("bob", "new", api.OK)
	for _, c := range []opened{{"ann", "old"}, {"bob", ""}} {
		a, err := w.d.Lookup(c.opening)
		check(t, c.opening, err, api.OK)
		if a.Value != c.value || (a.Opening == "") != (c.value == "") {
			t.Errorf("of %s %q is told, opened by %x", c.opening, a.Value, a.Opening)
		}
	}
	w.look("ann", "bob")
	w.publish()
	w.look("ann", "bob")
	w.publish()
	w.look("ann", "bob")
}

// TestSameValueAgain: 8.2: a value that is put again has another opening, so that another item lies there; without that all stays as it was.
func TestSameValueAgain(t *testing.T) {
	w := newTwin(t, drawn(7))
	w.put("ann", "v", api.OK)
	w.put("bob", "v", api.OK)
	seen := map[string]bool{}
	for n := 1; n <= 8; n++ {
		w.publish()
		w.look("ann", "bob")
		ann, _ := w.d.Lookup("ann")
		bob, _ := w.d.Lookup("bob")
		if seen[ann.Opening] || ann.Opening != otherMark('o', drawn(7), "ann", num(n)) || bob.Opening != otherMark('o', drawn(7), "bob", num(1)) {
			t.Errorf("epoch %d: the openings are %x and %x", n, ann.Opening, bob.Opening)
		}
		seen[ann.Opening] = true
		w.put("ann", "v", api.OK)
	}
}

// TestPublishFull: 8.2: a ninth epoch there is none, whatever waits; it changes nothing, and names may still be put.
func TestPublishFull(t *testing.T) {
	for _, waits := range []bool{false, true} {
		w := newTwin(t, drawn(8))
		for n := range 8 {
			w.put("ann", fmt.Sprint(n), api.OK)
			w.publish()
		}
		if waits {
			w.put("ann", "late", api.OK)
			w.put("bob", "late", api.OK)
		}
		for range 3 {
			s, err := w.d.Publish()
			check(t, "the ninth", err, api.ErrFull)
			if !sameSigned(s, api.Signed{}) {
				t.Errorf("the ninth epoch tells %x beside an error", s)
			}
			w.look("ann", "bob")
		}
		room := 59 // beside ann
		if waits {
			room-- // beside bob
		}
		for _, name := range many(0, room) {
			w.put(name, "late", api.OK)
		}
		w.put("more", "late", api.ErrFull)
		w.put("ann", "later", api.OK)
		w.look("ann", "bob", "m0")
	}
}

// TestEmptyEpochs: 8.2: epochs of nothing, and epochs in which nothing is new, are epochs; the root of no items is the document's example.
func TestEmptyEpochs(t *testing.T) {
	w := newTwin(t, drawn(9))
	for n := range 4 {
		w.publish()
		w.look(names()...)
		if got := w.epochs[n].Head.Root; got != otherMark('e', num(0)) {
			t.Fatalf("the root of nothing is %x", got)
		}
	}
	w.put("ann", "v", api.OK)
	for range 4 {
		w.publish()
		w.look(names()...)
	}
	last := w.d.Epochs()
	if last[4].Head.Root != last[7].Head.Root || last[4].Head.Root == last[3].Head.Root {
		t.Errorf("the roots are %x", last)
	}
}

// TestOneItem: the document's example: of one item the root is l(0, Index, Commit).
func TestOneItem(t *testing.T) {
	secret := "0123456789abcdef"
	w := newTwin(t, secret)
	w.put("ann", "key", api.OK)
	w.publish()
	commit := otherMark('c', otherMark('o', secret, "ann", num(1)), "key")
	if got, want := w.d.Epochs()[0].Head, (api.Head{Epoch: 1, Root: otherMark('l', num(0), otherMark('i', "ann"), commit), Prev: chain.None}); got != want {
		t.Errorf("the first head is %x, not %x", got, want)
	}
	w.look("ann", "bob")
}

// TestLookupErrors: 8.2: what is no name is told first; then that there was no epoch, though names wait.
func TestLookupErrors(t *testing.T) {
	w := newTwin(t, drawn(10))
	for n := range 3 {
		for _, bad := range notNames() {
			a, err := w.d.Lookup(bad)
			check(t, fmt.Sprintf("Lookup %q", bad), err, api.ErrName)
			if !sameAnswer(a, api.Answer{}) {
				t.Errorf("Lookup %q tells %x beside an error", bad, a)
			}
		}
		w.look(names()...)
		if n > 0 {
			w.publish()
		}
		w.put("ann", fmt.Sprint("v", n), api.OK)
	}
	w.look(names()...)
}

// TestDrawn: 8.1, 8.2: whatever is done, in whatever order, all that is told is just so.
func TestDrawn(t *testing.T) {
	for n := range 12 {
		d := die(n)
		w := newTwin(t, drawn(100+n))
		all := append(names(), many(0, 4*n)...)
		for range 60 {
			switch name := all[d.n(len(all))]; d.n(12) {
			case 0:
				if len(w.epochs) < 8 {
					w.publish()
				}
			case 1:
				w.look(name, all[d.n(len(all))])
			case 2:
				w.put(name, notValues()[d.n(len(notValues()))], api.ErrArg)
				w.put(notNames()[d.n(len(notNames()))], "v", api.ErrName)
			default:
				w.put(name, values()[d.n(len(values()))], api.OK)
			}
		}
		if len(w.epochs) < 8 {
			w.publish()
		}
		w.look(all...)
	}
}

// TestBelieved: 8.2: what is told is what the layers below believe: whole heads, each under its own key's seal, and each name's value, or that it has none.
func TestBelieved(t *testing.T) {
	w := newTwin(t, drawn(11))
	for n := range 8 {
		w.put(fmt.Sprint("n", n), fmt.Sprint("v", n), api.OK)
		w.publish()
		for k := range 10 {
			name := fmt.Sprint("n", k)
			a, err := w.d.Lookup(name)
			check(t, name, err, api.OK)
			commit, there, err := proof.Verify(a.Signed.Head.Root, otherMark('i', name), a.Proof)
			check(t, name, err, api.OK)
			opens, _ := proof.Commit(a.Opening, a.Value)
			if there != (k <= n) || commit != opens || there != (a.Value == fmt.Sprint("v", k)) {
				t.Errorf("epoch %d, %s: %v, %x, opened by %x", n+1, name, there, commit, opens)
			}
		}
	}
	var heads []api.Head
	for i, s := range w.d.Epochs() {
		mark, err := chain.Mark(s.Head)
		check(t, fmt.Sprint("head ", i), err, api.OK)
		if s.Seal.Key != i || !seal.Verify(w.d.Public(), mark, s.Seal) {
			t.Errorf("seal %d is %x", i, s.Seal)
		}
		heads = append(heads, s.Head)
	}
	if _, whole := chain.Whole(heads); !whole || len(heads) != 8 {
		t.Errorf("%d heads: whole: %v", len(heads), whole)
	}
}

// TestOrderIsNothing: 8.2: in whichever order names are put, and whatever other value they waited with, an epoch is the same.
func TestOrderIsNothing(t *testing.T) {
	var first []api.Signed
	for n := range 6 {
		w, l, d := newTwin(t, drawn(12)), many(0, 60), die(n)
		for range 2 {
			for i := range l {
				k := d.n(len(l))
				l[i], l[k] = l[k], l[i]
			}
			for i, name := range l {
				if i%3 == n%3 {
					w.put(name, "other", api.OK)
				}
			}
			for _, name := range l {
				w.put(name, "of "+name, api.OK)
			}
			w.publish()
		}
		if n == 0 {
			first = w.d.Epochs()
		}
		if got := w.d.Epochs(); !slices.EqualFunc(got, first, sameSigned) {
			t.Errorf("order %d: the epochs are %x, not %x", n, got, first)
		}
	}
}

// TestSecretKeepsApart: 8.2: of another secret the same names and values have other openings, other roots, and other seals.
func TestSecretKeepsApart(t *testing.T) {
	seen := map[string]string{}
	for _, secret := range append(secrets(), "0123456789abcdeg", "1123456789abcdef") {
		w := newTwin(t, secret)
		w.put("ann", "v", api.OK)
		w.put("bob", "v", api.OK)
		w.publish()
		w.look("ann", "bob", "eve")
		ann, _ := w.d.Lookup("ann")
		bob, _ := w.d.Lookup("bob")
		for _, mark := range []string{w.d.Public(), ann.Opening, bob.Opening, ann.Proof.Leaf.Commit, bob.Proof.Leaf.Commit, ann.Signed.Head.Root, ann.Signed.Seal.Path[0], ann.Signed.Seal.Sig[34]} {
			if was, ok := seen[mark]; ok {
				t.Errorf("%x and %x have %x", was, secret, mark)
			}
			seen[mark] = secret
		}
	}
}

// TestDirsApart: 8.1: what is put into one directory is not in another one, of the same secret neither.
func TestDirsApart(t *testing.T) {
	a, b, c := newTwin(t, drawn(13)), newTwin(t, drawn(13)), newTwin(t, drawn(14))
	for n := range 4 {
		a.put("ann", fmt.Sprint("a", n), api.OK)
		b.put("bob", fmt.Sprint("b", n), api.OK)
		a.publish()
		if n%2 == 0 {
			b.publish()
			c.publish()
		}
		for _, w := range []*twin{a, b, c} {
			w.look(names()...)
		}
	}
}

// TestToldStays: P4: no answer changes with what is put and published later.
func TestToldStays(t *testing.T) {
	w := newTwin(t, drawn(15))
	var answers, were []api.Answer
	var heads, headsWere []api.Signed
	for n := range 8 {
		for _, name := range many(n, 7) {
			w.put(name, fmt.Sprint("v", n), api.OK)
		}
		w.publish()
		for _, name := range many(0, 16) {
			a, _ := w.d.Lookup(name)
			answers, were = append(answers, a), append(were, copied(a))
		}
		for _, s := range w.d.Epochs() {
			heads, headsWere = append(heads, s), append(headsWere, copiedSigned(s))
		}
	}
	w.d.Publish()
	if !slices.EqualFunc(answers, were, sameAnswer) || !slices.EqualFunc(heads, headsWere, sameSigned) {
		t.Error("answers have changed with what was put later")
	}
}

// TestFresh: P4: what comes out is the caller's: a directory does not change with what is written into it, nor do other answers.
func TestFresh(t *testing.T) {
	w := newTwin(t, drawn(16))
	for n := range 8 {
		for _, name := range many(n, 9) {
			w.put(name, "v", api.OK)
		}
		w.publish()
		kept := w.d.Epochs()
		a, _ := w.d.Lookup("m3")
		other, _ := w.d.Lookup("m3")
		scribble(a.Signed.Seal.Sig, a.Signed.Seal.Path, a.Proof.Path)
		if !sameAnswer(other, w.answer("m3")) {
			t.Error("an answer has changed with another one")
		}
		w.look("m3", "none")
		l := w.d.Epochs()
		for _, s := range l {
			scribble(s.Seal.Sig, s.Seal.Path)
		}
		clear(l[:cap(l)])
		w.look("m3", "none")
		if !slices.EqualFunc(kept, w.epochs, sameSigned) {
			t.Error("epochs that were told have changed with others")
		}
	}
}

// TestFreshPublish: P4: what Publish tells is the caller's.
func TestFreshPublish(t *testing.T) {
	w := newTwin(t, drawn(17))
	for n := range 8 {
		w.put("ann", fmt.Sprint(n), api.OK)
		s := w.publish()
		scribble(s.Seal.Sig, s.Seal.Path)
		w.look("ann", "bob")
	}
}

// TestAgain: P4: what a call answers hangs on its arguments, and on the calls before on its directory, alone; looking changes nothing.
func TestAgain(t *testing.T) {
	w := newTwin(t, drawn(18))
	for i, name := range many(0, 20) {
		w.put(name, fmt.Sprint("v", i), api.OK)
	}
	w.publish()
	w.put("m3", "waits", api.OK)
	for n := range 10 {
		w.look(many(0, 22)...)
		o := newTwin(t, drawn(n))
		for _, name := range many(n, 30) {
			o.put(name, "o", api.OK)
		}
		o.publish()
		o.look(many(0, 5)...)
		dir.New("")
	}
	if want := map[string]string{"m3": "waits"}; !maps.Equal(w.waits, want) {
		t.Fatalf("the twin waits for %v", w.waits)
	}
	w.publish()
	w.look(many(0, 22)...)
}

func BenchmarkLookup(b *testing.B) {
	d, _ := dir.New(drawn(1))
	for _, name := range many(0, 60) {
		d.Put(name, "v")
	}
	d.Publish()
	for b.Loop() {
		d.Lookup("m7")
	}
}
