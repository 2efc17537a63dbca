package client_test

import (
	"crypto/sha256"
	"encoding/binary"
	"errors"
	"fmt"
	"math"
	"slices"
	"strings"
	"testing"

	"rollkeeper/api"
	"rollkeeper/client"
	"rollkeeper/dir"
	"rollkeeper/proof"
	"rollkeeper/seal"
	"rollkeeper/trie"
)

// otherMark is a mark by the library's sum, its text laid out part by part.
func otherMark(kind byte, parts ...string) string {
	text := []byte{kind}
	for _, p := range parts {
		text = binary.BigEndian.AppendUint64(text, uint64(len(p)))
		text = append(text, p...)
	}
	h := sha256.Sum256(text)
	return string(h[:16])
}

// num is a number as eight bytes.
func num(n int) string { return string(binary.BigEndian.AppendUint64(nil, uint64(n))) }

// drawn is a mark that looks drawn, the same each time.
func drawn(seed int) string {
	b := make([]byte, api.MarkSize)
	x := uint32(seed)*2654435761 + 1
	for i := range b {
		x = x*1664525 + 1013904223
		b[i] = byte(x >> 24)
	}
	return string(b)
}

// turned is a mark with another bit k.
func turned(mark string, k int) string {
	b := []byte(mark)
	b[k/8] ^= 0x80 >> (k % 8)
	return string(b)
}

// zeros is what the first head has ahead of it.
func zeros() string { return strings.Repeat("\x00", 16) }

// notMarks are texts of other sizes than a mark's.
func notMarks() []string {
	return []string{"", "\x00", strings.Repeat("\x00", 15), strings.Repeat("\xff", 17), strings.Repeat("a", 32), strings.Repeat("ä", 16)}
}

// notNames are texts that may be none.
func notNames() []string {
	return []string{"", "Ann", "1a", "abcdefghijklm", "a b", "ann ", "ann\x00", "ä", strings.Repeat("a", 1000)}
}

// check: an error is just the one that is wanted, and tells no place.
func check(t *testing.T, what string, err error, want api.Errno) {
	t.Helper()
	if got := api.Tell(err); got != want {
		t.Errorf("%s: error %d, not %d", what, got, want)
	}
	var at *api.At
	if errors.As(err, &at) {
		t.Errorf("%s: the error tells place %d", what, at.Place)
	}
}

// markOf is a head's mark, by the library's sum; also of one that may not be.
func markOf(h api.Head) string { return otherMark('h', num(h.Epoch), h.Root, h.Prev) }

// newBox is one of a seed that may be.
func newBox(t *testing.T, seed string) *seal.Box {
	t.Helper()
	b, err := seal.New(seed)
	check(t, "the box", err, api.OK)
	return b
}

// signedBy is a head, and its seal by a key.
func signedBy(t *testing.T, b *seal.Box, key int, h api.Head) api.Signed {
	t.Helper()
	s, err := b.Sign(key, markOf(h))
	check(t, fmt.Sprint("the seal by key ", key), err, api.OK)
	return api.Signed{Head: h, Seal: s}
}

// signed is a head, and its own key's seal.
func signed(t *testing.T, b *seal.Box, h api.Head) api.Signed {
	t.Helper()
	return signedBy(t, b, h.Epoch-1, h)
}

// linked are signed heads of roots, one behind the other.
func linked(t *testing.T, b *seal.Box, roots ...string) []api.Signed {
	t.Helper()
	var l []api.Signed
	prev := zeros()
	for i, root := range roots {
		h := api.Head{Epoch: i + 1, Root: root, Prev: prev}
		l, prev = append(l, signed(t, b, h)), markOf(h)
	}
	return l
}

// roots are n marks.
func roots(from, n int) []string {
	var l []string
	for i := range n {
		l = append(l, drawn(from+i))
	}
	return l
}

// headsOf are heads without their seals.
func headsOf(l []api.Signed) []api.Head {
	var heads []api.Head
	for _, s := range l {
		heads = append(heads, s.Head)
	}
	return heads
}

// with is a list with another mark in a place.
func with(l []string, at int, mark string) []string {
	l = slices.Clone(l)
	l[at] = mark
	return l
}

// newClient is one of what may be a public mark.
func newClient(t *testing.T, public string) *client.Client {
	t.Helper()
	c, err := client.New(public)
	check(t, fmt.Sprintf("New of %x", public), err, api.OK)
	if c == nil {
		t.Fatalf("there is no client of %x", public)
	}
	return c
}

// checkHeads: a client has seen just those.
func checkHeads(t *testing.T, what string, c *client.Client, want []api.Head) {
	t.Helper()
	if got := c.Heads(); !slices.Equal(got, want) {
		t.Errorf("%s: the heads are %x, not %x", what, got, want)
	}
}

// sees: a client takes heads.
func sees(t *testing.T, c *client.Client, l ...api.Signed) {
	t.Helper()
	for i, s := range l {
		check(t, fmt.Sprintf("See number %d", i), c.See(s), api.OK)
	}
}

// refuses: a client takes a head neither alone nor with an answer, and has seen what it had seen.
func refuses(t *testing.T, what string, c *client.Client, s api.Signed, want api.Errno) {
	t.Helper()
	was := c.Heads()
	check(t, what, c.See(s), want)
	checkHeads(t, what, c, was)
	checkAsk(t, what+", asked", c, "ann", api.Answer{Signed: s}, "", false, want)
	checkHeads(t, what+", asked", c, was)
}

// checkAsk: just that is told of an answer.
func checkAsk(t *testing.T, what string, c *client.Client, name string, a api.Answer, value string, there bool, want api.Errno) {
	t.Helper()
	v, is, err := c.Ask(name, a)
	check(t, what, err, want)
	if v != value || is != there {
		t.Errorf("%s: Ask is %q, %v, not %q, %v", what, v, is, value, there)
	}
}

// newDir is a directory in which each epoch has put some names and values.
func newDir(t *testing.T, secret string, epochs ...map[string]string) *dir.Dir {
	t.Helper()
	d, err := dir.New(secret)
	check(t, "the directory", err, api.OK)
	for _, l := range epochs {
		publish(t, d, l)
	}
	return d
}

// publish is one more epoch.
func publish(t *testing.T, d *dir.Dir, l map[string]string) {
	t.Helper()
	for name, value := range l {
		check(t, "Put "+name, d.Put(name, value), api.OK)
	}
	_, err := d.Publish()
	check(t, "Publish", err, api.OK)
}

// lookup is a name's answer.
func lookup(t *testing.T, d *dir.Dir, name string) api.Answer {
	t.Helper()
	a, err := d.Lookup(name)
	check(t, "Lookup "+name, err, api.OK)
	return a
}

// folk are some names, each with a value.
func folk() map[string]string {
	return map[string]string{"ann": "key", "bob": "new", "eve": "v", "abcdefghijkl": strings.Repeat("\xff", 24), "z9": "\x00"}
}

// TestNoClient: 9.1: of what has not 16 bytes there is no client.
func TestNoClient(t *testing.T) {
	for _, bad := range append(notMarks(), drawn(1)[:15], drawn(1)+"\x00") {
		c, err := client.New(bad)
		check(t, fmt.Sprintf("New of %q", bad), err, api.ErrArg)
		if c != nil {
			t.Errorf("New of %q tells a client beside an error", bad)
		}
	}
}

// TestNew: 9.1: a new client has seen no heads; of any mark there is one.
func TestNew(t *testing.T) {
	for _, public := range []string{zeros(), strings.Repeat("\xff", 16), "0123456789abcdef", drawn(1)} {
		checkHeads(t, fmt.Sprintf("%x", public), newClient(t, public), nil)
	}
}

// TestSee: 9.1: heads are seen one behind the other, each as often as it is told, and changed by that no more.
func TestSee(t *testing.T) {
	b := newBox(t, drawn(2))
	for _, l := range [][]api.Signed{linked(t, b, roots(10, 8)...), linked(t, b, slices.Repeat(roots(10, 1), 8)...), linked(t, b, zeros(), zeros())} {
		c := newClient(t, b.Public())
		for n := range l {
			for _, s := range l[:n+1] {
				sees(t, c, s, s)
			}
			checkHeads(t, fmt.Sprint(n+1, " heads"), c, headsOf(l[:n+1]))
		}
		slices.Reverse(l)
		sees(t, c, l...)
		slices.Reverse(l)
		checkHeads(t, "back to front", c, headsOf(l))
	}
}

// spoilt are a signed head with each part another one, so that its seal is none of it.
func spoilt(s api.Signed) []api.Signed {
	h, k := s.Head, s.Seal
	l := []api.Signed{{}, {Head: h}, {Seal: k}}
	for _, n := range []int{h.Epoch - 1, h.Epoch + 1, -h.Epoch, 0, 9, math.MaxInt, math.MinInt} {
		l = append(l, api.Signed{Head: api.Head{Epoch: n, Root: h.Root, Prev: h.Prev}, Seal: k})
		l = append(l, api.Signed{Head: api.Head{Epoch: n, Root: h.Root, Prev: h.Prev}, Seal: api.Seal{Key: n - 1, Sig: k.Sig, Path: k.Path}})
	}
	for _, m := range append(notMarks(), h.Prev, turned(h.Root, 0), turned(h.Root, 127), h.Root[:15]) {
		l = append(l, api.Signed{Head: api.Head{Epoch: h.Epoch, Root: m, Prev: h.Prev}, Seal: k})
	}
	for _, m := range append(notMarks(), h.Root, turned(h.Prev, 0), turned(h.Prev, 127), h.Prev+"\x00") {
		l = append(l, api.Signed{Head: api.Head{Epoch: h.Epoch, Root: h.Root, Prev: m}, Seal: k})
	}
	for _, key := range []int{k.Key - 1, k.Key + 1, k.Key ^ 1, k.Key + 8, -k.Key - 1, math.MaxInt, math.MinInt} {
		l = append(l, api.Signed{Head: h, Seal: api.Seal{Key: key, Sig: k.Sig, Path: k.Path}})
	}
	for _, at := range []int{0, 17, 34} {
		l = append(l, api.Signed{Head: h, Seal: api.Seal{Key: k.Key, Sig: with(k.Sig, at, turned(k.Sig[at], 9)), Path: k.Path}})
		l = append(l, api.Signed{Head: h, Seal: api.Seal{Key: k.Key, Sig: with(k.Sig, at, ""), Path: k.Path}})
		l = append(l, api.Signed{Head: h, Seal: api.Seal{Key: k.Key, Sig: k.Sig[:at], Path: k.Path}})
	}
	for at := range k.Path {
		l = append(l, api.Signed{Head: h, Seal: api.Seal{Key: k.Key, Sig: k.Sig, Path: with(k.Path, at, turned(k.Path[at], 9))}})
		l = append(l, api.Signed{Head: h, Seal: api.Seal{Key: k.Key, Sig: k.Sig, Path: k.Path[:at]}})
	}
	return l
}

// TestSeeSpoilt: 9.1: a head that has not its own seal is not seen, whether it is the next one, one that was seen, or one too far on.
func TestSeeSpoilt(t *testing.T) {
	b := newBox(t, drawn(3))
	l := linked(t, b, roots(20, 8)...)
	for _, n := range []int{0, 1, 4, 8} {
		c := newClient(t, b.Public())
		sees(t, c, l[:n]...)
		for _, s := range l {
			for i, x := range spoilt(s) {
				refuses(t, fmt.Sprintf("%d seen, epoch %d, spoilt %d", n, s.Head.Epoch, i), c, x, api.ErrSpoilt)
			}
		}
		sees(t, c, l...)
	}
}

// TestSeeWrongHead: 9.1: a head that may not be is not seen, though a seal is one of what would be its mark.
func TestSeeWrongHead(t *testing.T) {
	b := newBox(t, drawn(4))
	c := newClient(t, b.Public())
	for _, bad := range notMarks() {
		for key := range 8 {
			refuses(t, fmt.Sprintf("root %q", bad), c, signedBy(t, b, key, api.Head{Epoch: 1, Root: bad, Prev: zeros()}), api.ErrSpoilt)
			refuses(t, fmt.Sprintf("prev %q", bad), c, signedBy(t, b, key, api.Head{Epoch: 1, Root: drawn(1), Prev: bad}), api.ErrSpoilt)
		}
	}
	for _, n := range []int{0, -1, -7, 9, 10, 16, 257, math.MaxInt, math.MinInt} {
		for key := range 8 {
			refuses(t, fmt.Sprint("epoch ", n), c, signedBy(t, b, key, api.Head{Epoch: n, Root: drawn(1), Prev: zeros()}), api.ErrSpoilt)
		}
	}
}

// TestSeeOtherKey: 9.1: a seal by another key of the same box, which Verify believes, is not that epoch's.
func TestSeeOtherKey(t *testing.T) {
	b := newBox(t, drawn(5))
	l := linked(t, b, roots(30, 8)...)
	c := newClient(t, b.Public())
	for n, s := range l {
		for key := range 8 {
			x := signedBy(t, b, key, s.Head)
			if !seal.Verify(b.Public(), markOf(s.Head), x.Seal) {
				t.Fatalf("key %d signs nothing", key)
			}
			if key != n {
				refuses(t, fmt.Sprintf("epoch %d by key %d", n+1, key), c, x, api.ErrSpoilt)
			}
		}
		sees(t, c, s)
	}
}

// TestSeeOtherBox: 9.1: a seal of another box is none.
func TestSeeOtherBox(t *testing.T) {
	b := newBox(t, drawn(6))
	l := linked(t, b, roots(40, 8)...)
	for _, public := range []string{newBox(t, drawn(7)).Public(), turned(b.Public(), 0), turned(b.Public(), 127), zeros(), l[0].Seal.Path[2]} {
		c := newClient(t, public)
		for _, s := range l {
			refuses(t, fmt.Sprintf("epoch %d, by %x", s.Head.Epoch, public), c, s, api.ErrSpoilt)
		}
	}
}

// TestSeeOrder: 9.1: a head that is more than one on is not seen, whether it would follow or not.
func TestSeeOrder(t *testing.T) {
	b := newBox(t, drawn(8))
	l, other := linked(t, b, roots(50, 8)...), linked(t, b, roots(60, 8)...)
	c := newClient(t, b.Public())
	for n := range l {
		for _, far := range append(l[n+1:], other[n+1:]...) {
			refuses(t, fmt.Sprintf("%d seen, epoch %d", n, far.Head.Epoch), c, far, api.ErrOrder)
			far.Head.Prev = zeros()
			refuses(t, fmt.Sprintf("%d seen, epoch %d behind nothing", n, far.Head.Epoch), c, signed(t, b, far.Head), api.ErrOrder)
		}
		sees(t, c, l[n])
	}
}

// TestSeeFalse: 9.1: of an epoch that was seen another head is not, nor a next one that is not behind what was seen; the true one is seen all the same.
func TestSeeFalse(t *testing.T) {
	b := newBox(t, drawn(9))
	l := linked(t, b, roots(70, 8)...)
	c := newClient(t, b.Public())
	for n := range l {
		for _, s := range l[:n] {
			for _, k := range []int{0, 64, 127} {
				h := s.Head
				h.Root = turned(h.Root, k)
				refuses(t, fmt.Sprintf("%d seen, epoch %d, another root", n, h.Epoch), c, signed(t, b, h), api.ErrFalse)
				h = s.Head
				h.Prev = turned(h.Prev, k)
				refuses(t, fmt.Sprintf("%d seen, epoch %d, behind another one", n, h.Epoch), c, signed(t, b, h), api.ErrFalse)
			}
		}
		h := l[n].Head
		prevs := []string{turned(h.Prev, 0), turned(h.Prev, 127), h.Root, drawn(80)}
		for _, s := range l {
			prevs = append(prevs, s.Head.Prev, markOf(s.Head))
		}
		for _, prev := range prevs {
			if prev != l[n].Head.Prev {
				h.Prev = prev
				refuses(t, fmt.Sprintf("%d seen, the next one behind %x", n, prev), c, signed(t, b, h), api.ErrFalse)
			}
		}
		sees(t, c, l[n])
		checkHeads(t, "behind the true one", c, headsOf(l[:n+1]))
	}
}

// TestWhoIsLiedToNotices: 9.1: who saw one of two chains that parted is told nothing more of the other one, from there on.
func TestWhoIsLiedToNotices(t *testing.T) {
	b := newBox(t, drawn(10))
	for at := range 8 {
		ra := roots(90, 8)
		a, other := linked(t, b, ra...), linked(t, b, with(ra, at, drawn(99))...)
		for n := at + 1; n <= 8; n++ {
			c := newClient(t, b.Public())
			sees(t, c, a[:n]...)
			sees(t, c, other[:at]...)
			for _, s := range other[at:] {
				want := api.ErrFalse
				if s.Head.Epoch > n+1 {
					want = api.ErrOrder
				}
				refuses(t, fmt.Sprintf("parted at %d, %d seen, epoch %d", at, n, s.Head.Epoch), c, s, want)
			}
			sees(t, c, a...)
		}
	}
}

// TestAsk: 9.2: each name's value is told in each epoch, and that a name has none; the head is seen with it.
func TestAsk(t *testing.T) {
	d := newDir(t, drawn(11))
	c, told := newClient(t, d.Public()), map[string]string{}
	for n := range 8 {
		l := map[string]string{"ann": fmt.Sprint("key ", n)}
		if n > 0 {
			for name, value := range folk() {
				if len(name)%3 == n%3 {
					l[name] = value
				}
			}
		}
		if n%3 == 1 {
			l = nil
		}
		publish(t, d, l)
		for name, value := range l {
			told[name] = value
		}
		for _, name := range []string{"zed", "ann", "bob", "eve", "abcdefghijkl", "z9", "a", "anna"} {
			value, there := told[name]
			for range 2 {
				checkAsk(t, fmt.Sprintf("epoch %d, %s", n+1, name), c, name, lookup(t, d, name), value, there, api.OK)
			}
			checkHeads(t, "asked", c, headsOf(d.Epochs()))
		}
	}
}

// TestAskNothing: 9.2: in a directory of nothing, no name has a value.
func TestAskNothing(t *testing.T) {
	d := newDir(t, drawn(12), nil)
	c := newClient(t, d.Public())
	for _, name := range []string{"ann", "a", "abcdefghijkl"} {
		checkAsk(t, name, c, name, lookup(t, d, name), "", false, api.OK)
	}
}

// TestAskOlder: 9.2: an answer of an epoch that was seen tells what was so then, though others were seen behind it.
func TestAskOlder(t *testing.T) {
	d := newDir(t, drawn(13))
	var old, none []api.Answer
	for n := range 8 {
		publish(t, d, map[string]string{"ann": fmt.Sprint("v", n), fmt.Sprint("n", n): "v"})
		old, none = append(old, lookup(t, d, "ann")), append(none, lookup(t, d, "n7"))
	}
	c := newClient(t, d.Public())
	sees(t, c, d.Epochs()...)
	for n := range 8 {
		value := ""
		if n == 7 {
			value = "v"
		}
		checkAsk(t, fmt.Sprint("epoch ", n+1), c, "ann", old[n], fmt.Sprint("v", n), true, api.OK)
		checkAsk(t, fmt.Sprint("epoch ", n+1), c, "n7", none[n], value, n == 7, api.OK)
	}
	checkHeads(t, "behind old answers", c, headsOf(d.Epochs()))
}

// TestAskName: 9.2: what is no name is told first, and the head is not seen then.
func TestAskName(t *testing.T) {
	d := newDir(t, drawn(14), folk())
	c := newClient(t, d.Public())
	good := lookup(t, d, "ann")
	wrong := good
	wrong.Signed.Head.Epoch, wrong.Proof.Path, wrong.Value = 3, []string{""}, ""
	for _, bad := range notNames() {
		checkAsk(t, fmt.Sprintf("%q", bad), c, bad, good, "", false, api.ErrName)
		checkAsk(t, fmt.Sprintf("%q", bad), c, bad, wrong, "", false, api.ErrName)
		checkAsk(t, fmt.Sprintf("%q", bad), c, bad, api.Answer{}, "", false, api.ErrName)
		checkHeads(t, fmt.Sprintf("%q", bad), c, nil)
	}
}

// TestAskSee: 9.2: See's errors are told next, whatever else is wrong: of the seal, of the order, of another head.
func TestAskSee(t *testing.T) {
	secret := drawn(15)
	d, other := newDir(t, secret, folk(), nil, nil), newDir(t, secret, nil)
	c := newClient(t, d.Public())
	whole := lookup(t, d, "ann")
	broken := whole
	broken.Proof.Path, broken.Opening, broken.Value = []string{""}, "", "more"
	for _, a := range []api.Answer{whole, broken} {
		asked := func(s api.Signed, want api.Errno) {
			t.Helper()
			was := c.Heads()
			a.Signed = s
			checkAsk(t, fmt.Sprint("epoch ", s.Head.Epoch), c, "ann", a, "", false, want)
			checkHeads(t, fmt.Sprint("epoch ", s.Head.Epoch), c, was)
		}
		for _, s := range spoilt(d.Epochs()[2]) {
			asked(s, api.ErrSpoilt)
		}
		if len(c.Heads()) == 0 {
			asked(d.Epochs()[1], api.ErrOrder)
			asked(d.Epochs()[2], api.ErrOrder)
			sees(t, c, d.Epochs()[0])
		}
		asked(d.Epochs()[2], api.ErrOrder)
		asked(other.Epochs()[0], api.ErrFalse)
		behind := other.Epochs()[0].Head
		asked(signed(t, newBox(t, otherMark('k', secret)), api.Head{Epoch: 2, Root: behind.Root, Prev: markOf(behind)}), api.ErrFalse)
	}
}

// asksBroken: of an answer whose head may be seen an error is told, by a client that saw it and by one that did not; it is seen then.
func asksBroken(t *testing.T, what string, d *dir.Dir, name string, a api.Answer, want api.Errno) {
	t.Helper()
	c := newClient(t, d.Public())
	l := d.Epochs()
	sees(t, c, l[:a.Signed.Head.Epoch-1]...)
	for range 2 {
		checkAsk(t, what, c, name, a, "", false, want)
		checkHeads(t, what, c, headsOf(l[:a.Signed.Head.Epoch]))
	}
}

// TestAskProof: 9.2: a proof that may not be is ErrArg, one that leads elsewhere ErrFalse, whatever the value is; the head is seen all the same.
func TestAskProof(t *testing.T) {
	d := newDir(t, drawn(16), map[string]string{"ann": "old"}, folk())
	for _, name := range []string{"ann", "zed", "z9"} {
		whole := lookup(t, d, name)
		for _, value := range []string{whole.Value, "", "evil", strings.Repeat("x", 25)} {
			broken := func(what string, p api.Proof, want api.Errno) {
				t.Helper()
				a := whole
				a.Proof, a.Value = p, value
				asksBroken(t, fmt.Sprintf("%s, %q, %s", name, value, what), d, name, a, want)
			}
			p := whole.Proof
			path, leaf := p.Path, p.Leaf
			for at := range path {
				for _, bad := range notMarks() {
					broken(fmt.Sprintf("beside %d is %q", at, bad), api.Proof{Path: with(path, at, bad), Leaf: leaf}, api.ErrArg)
				}
				broken(fmt.Sprint("another one beside ", at), api.Proof{Path: with(path, at, turned(path[at], at)), Leaf: leaf}, api.ErrFalse)
				broken(fmt.Sprint("as far as ", at), api.Proof{Path: path[:at], Leaf: leaf}, api.ErrFalse)
			}
			broken("129 marks", api.Proof{Path: slices.Repeat(roots(1, 1), 129), Leaf: leaf}, api.ErrArg)
			broken("an empty commit", api.Proof{Path: path, Leaf: api.Item{Index: otherMark('i', name)}}, api.ErrArg)
			broken("an empty index", api.Proof{Path: path, Leaf: api.Item{Commit: drawn(1)}}, api.ErrArg)
			broken("a leaf elsewhere", api.Proof{Path: path, Leaf: api.Item{Index: turned(otherMark('i', name), 0), Commit: drawn(1)}}, api.ErrArg)
			broken("another commit", api.Proof{Path: path, Leaf: api.Item{Index: otherMark('i', name), Commit: drawn(1)}}, api.ErrFalse)
			broken("a leaf beside it", api.Proof{Path: path, Leaf: api.Item{Index: turned(otherMark('i', name), 127), Commit: drawn(1)}}, api.ErrFalse)
			broken("the way's first half", api.Proof{Path: path[:1], Leaf: api.Item{}}, api.ErrFalse)
			broken("nothing", api.Proof{}, api.ErrFalse)
		}
	}
}

// TestAskOtherEpoch: 9.2: what one epoch's root proves, another one's does not.
func TestAskOtherEpoch(t *testing.T) {
	d := newDir(t, drawn(17))
	var l []api.Answer
	for n := range 5 {
		publish(t, d, map[string]string{"ann": fmt.Sprint("v", n), fmt.Sprint("n", n): "v"})
		l = append(l, lookup(t, d, "ann"))
	}
	for i, a := range l {
		for k, other := range l {
			if i != k {
				a.Signed = other.Signed
				asksBroken(t, fmt.Sprintf("epoch %d's proof in %d", i+1, k+1), d, "ann", a, api.ErrFalse)
			}
		}
	}
}

// TestAskValue: 9.2: of a name that is there another value, another opening, or one that may not be, is not believed.
func TestAskValue(t *testing.T) {
	d := newDir(t, drawn(18), folk())
	for name, value := range folk() {
		whole := lookup(t, d, name)
		broken := func(opening, value string) {
			t.Helper()
			a := whole
			a.Opening, a.Value = opening, value
			asksBroken(t, fmt.Sprintf("%s, %x opens %q", name, opening, value), d, name, a, api.ErrFalse)
		}
		for _, other := range []string{"", "evil", value + "\x00", value[:len(value)-1], strings.Repeat("x", 24), strings.Repeat("x", 25), strings.Repeat("x", 1000)} {
			broken(whole.Opening, other)
			broken("", other)
			broken(drawn(1), other)
		}
		for _, opening := range append(notMarks(), whole.Opening[:15], whole.Opening+"\x00", turned(whole.Opening, 0), turned(whole.Opening, 127), whole.Proof.Leaf.Commit) {
			broken(opening, value)
		}
		for other := range folk() {
			if a := lookup(t, d, other); other != name {
				broken(a.Opening, a.Value)
				broken(a.Opening, value)
			}
		}
	}
}

// TestAskNoValue: 9.2: of a name that is not there neither an opening nor a value is told.
func TestAskNoValue(t *testing.T) {
	some := folk()
	for n, d := range []*dir.Dir{newDir(t, drawn(19), nil), newDir(t, drawn(19), map[string]string{"ann": "v"}), newDir(t, drawn(19), some)} {
		for _, name := range []string{"zed", "anna", "b"} {
			a := lookup(t, d, name)
			for _, x := range [][2]string{{drawn(1), "v"}, {drawn(1), ""}, {"", "v"}, {"x", ""}, {"", strings.Repeat("x", 25)}, {"\x00", "\x00"}, {a.Proof.Leaf.Commit + "x", ""}} {
				a.Opening, a.Value = x[0], x[1]
				asksBroken(t, fmt.Sprintf("directory %d, %s, %q opens %q", n, name, x[0], x[1]), d, name, a, api.ErrFalse)
			}
		}
	}
}

// TestAskForAnother: 9.2: an answer of one name tells no value of another one, and no answer of a name without a value takes another one's away.
func TestAskForAnother(t *testing.T) {
	d := newDir(t, drawn(20), folk())
	c := newClient(t, d.Public())
	all := []string{"zed", "anna", "b"}
	for name := range folk() {
		all = append(all, name)
	}
	for _, name := range all {
		a := lookup(t, d, name)
		for _, other := range all {
			value, there, err := c.Ask(other, a)
			own := folk()[other]
			switch {
			case name == other && (err != nil || value != own || there != (own != "")):
				t.Errorf("%s: %q, %v, error %d", name, value, there, api.Tell(err))
			case name != other && (value != "" || there || err == nil && own != ""):
				t.Errorf("the answer of %s, for %s: %q, %v, error %d", name, other, value, there, api.Tell(err))
			}
		}
	}
}

// TestAskOtherLeaf: 9.2: that another one's item lies where a name's would is proof that the name has none.
func TestAskOtherLeaf(t *testing.T) {
	b := newBox(t, drawn(21))
	ix := otherMark('i', "ann")
	for _, k := range []int{0, 1, 63, 127} {
		commit, err := proof.Commit(drawn(1), "v")
		check(t, "the commit", err, api.OK)
		items := []api.Item{{Index: turned(ix, k), Commit: commit}}
		root, err := trie.Root(items)
		check(t, "the root", err, api.OK)
		a := api.Answer{Signed: linked(t, b, root)[0], Proof: api.Proof{Leaf: items[0]}}
		c := newClient(t, b.Public())
		checkAsk(t, fmt.Sprint("another bit ", k), c, "ann", a, "", false, api.OK)
		a.Opening, a.Value = drawn(1), "v"
		checkAsk(t, fmt.Sprint("another bit ", k, ", opened"), c, "ann", a, "", false, api.ErrFalse)
	}
}

// TestTwoDirectories: 9.1, 9.2: of two directories of one secret that tell two things, a client believes the one that it was told first, and notices the other one.
func TestTwoDirectories(t *testing.T) {
	secret := drawn(22)
	one, two := newDir(t, secret, folk()), newDir(t, secret, folk())
	if one.Public() != two.Public() {
		t.Fatal("the public marks are two")
	}
	a, b := newClient(t, one.Public()), newClient(t, one.Public())
	checkAsk(t, "alike", a, "ann", lookup(t, two, "ann"), "key", true, api.OK)
	checkAsk(t, "alike", b, "ann", lookup(t, one, "ann"), "key", true, api.OK)
	publish(t, one, map[string]string{"ann": "true"})
	publish(t, two, map[string]string{"ann": "evil"})
	for range 2 {
		checkAsk(t, "one's", a, "ann", lookup(t, one, "ann"), "true", true, api.OK)
		checkAsk(t, "two's", b, "ann", lookup(t, two, "ann"), "evil", true, api.OK)
		checkAsk(t, "two's, who was told one's", a, "ann", lookup(t, two, "ann"), "", false, api.ErrFalse)
		checkAsk(t, "one's, who was told two's", b, "ann", lookup(t, one, "ann"), "", false, api.ErrFalse)
	}
	publish(t, one, nil)
	publish(t, two, nil)
	checkAsk(t, "two's next one", a, "ann", lookup(t, two, "ann"), "", false, api.ErrFalse)
	checkAsk(t, "one's next one", a, "ann", lookup(t, one, "ann"), "true", true, api.OK)
	checkHeads(t, "who was told one's", a, headsOf(one.Epochs()))
	checkHeads(t, "who was told two's", b, headsOf(two.Epochs()[:2]))
}

// TestFresh: P4: a client does not change with what is written into the heads that it tells, nor do those with what it sees.
func TestFresh(t *testing.T) {
	b := newBox(t, drawn(23))
	l := linked(t, b, roots(1, 8)...)
	c := newClient(t, b.Public())
	for n, s := range l {
		sees(t, c, s)
		kept, told := c.Heads(), c.Heads()
		clear(told[:cap(told)])
		checkHeads(t, "behind writing", c, headsOf(l[:n+1]))
		sees(t, c, l[:n+1]...)
		if n < 7 {
			refuses(t, "too far", c, signed(t, b, api.Head{Epoch: n + 1, Root: drawn(99), Prev: drawn(98)}), api.ErrFalse)
		}
		if !slices.Equal(kept, headsOf(l[:n+1])) {
			t.Errorf("%d heads that were told are now %x", n+1, kept)
		}
	}
}

// TestLeavesLists: P4: no list of an answer is written into or kept, nor what stands behind its length.
func TestLeavesLists(t *testing.T) {
	d := newDir(t, drawn(24), folk())
	for _, name := range []string{"ann", "zed"} {
		a := lookup(t, d, name)
		lists := []*[]string{&a.Signed.Seal.Sig, &a.Signed.Seal.Path, &a.Proof.Path}
		var all, were [][]string
		for _, l := range lists {
			long := append(slices.Clone(*l), "behind", "it")
			*l = long[:len(long)-2]
			all, were = append(all, long), append(were, slices.Clone(long))
		}
		c := newClient(t, d.Public())
		value := folk()[name]
		for range 2 {
			checkAsk(t, name, c, name, a, value, value != "", api.OK)
			sees(t, c, a.Signed)
		}
		for i, l := range all {
			if !slices.Equal(l, were[i]) {
				t.Errorf("%s: list %d is now %x", name, i, l)
			}
			clear(l)
		}
		checkHeads(t, name, c, headsOf(d.Epochs()))
		checkAsk(t, name, c, name, lookup(t, d, name), value, value != "", api.OK)
		checkAsk(t, name+", written into", c, name, a, "", false, api.ErrSpoilt)
	}
}

// TestClientsApart: P4: what one client saw another one did not; what a call answers hangs on its client's calls alone.
func TestClientsApart(t *testing.T) {
	secret := drawn(25)
	d := newDir(t, secret, folk(), nil)
	b := newBox(t, otherMark('k', secret))
	forged := linked(t, b, drawn(1))[0]
	first, second := newClient(t, d.Public()), newClient(t, d.Public())
	sees(t, first, d.Epochs()...)
	refuses(t, "none seen", second, d.Epochs()[1], api.ErrOrder)
	sees(t, second, forged)
	checkAsk(t, "the first one", first, "ann", lookup(t, d, "ann"), "key", true, api.OK)
	refuses(t, "another one seen", second, d.Epochs()[1], api.ErrFalse)
	refuses(t, "the true one seen", first, forged, api.ErrFalse)
	checkHeads(t, "the first one", first, headsOf(d.Epochs()))
	checkHeads(t, "the second one", second, []api.Head{forged.Head})
	checkHeads(t, "a third one", newClient(t, d.Public()), nil)
}

func BenchmarkAsk(b *testing.B) {
	d, _ := dir.New(drawn(1))
	for name, value := range folk() {
		d.Put(name, value)
	}
	d.Publish()
	c, _ := client.New(d.Public())
	a, _ := d.Lookup("ann")
	for b.Loop() {
		c.Ask("ann", a)
	}
}
