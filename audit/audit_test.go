package audit_test

import (
	"cmp"
	"crypto/sha256"
	"encoding/binary"
	"errors"
	"fmt"
	"math"
	"slices"
	"strings"
	"testing"

	"rollkeeper/api"
	"rollkeeper/audit"
	"rollkeeper/client"
	"rollkeeper/dir"
	"rollkeeper/seal"
)

// otherMark is a mark by the library's sum, its text laid out part by part.
func otherMark(kind byte, parts ...string) string {
	text := []byte{kind}
	for _, p := range parts {
		text = binary.BigEndian.AppendUint64(text, uint64(len(p)))
		text = append(text, p...)
	}
	h := sha256.Sum256(text)
	return string(h[:16])
}

// num is a number as eight bytes.
func num(n int) string { return string(binary.BigEndian.AppendUint64(nil, uint64(n))) }

// drawn is a mark that looks drawn, the same each time.
func drawn(seed int) string {
	b := make([]byte, api.MarkSize)
	x := uint32(seed)*2654435761 + 1
	for i := range b {
		x = x*1664525 + 1013904223
		b[i] = byte(x >> 24)
	}
	return string(b)
}

// turned is a mark with another bit k.
func turned(mark string, k int) string {
	b := []byte(mark)
	b[k/8] ^= 0x80 >> (k % 8)
	return string(b)
}

// zeros is what the first head has ahead of it.
func zeros() string { return strings.Repeat("\x00", 16) }

// notMarks are texts of other sizes than a mark's.
func notMarks() []string {
	return []string{"", "\x00", strings.Repeat("\x00", 15), strings.Repeat("\xff", 17), strings.Repeat("a", 32), strings.Repeat("ä", 16)}
}

// check: an error is just the one that is wanted, and tells no place.
func check(t *testing.T, what string, err error, want api.Errno) {
	t.Helper()
	if got := api.Tell(err); got != want {
		t.Errorf("%s: error %d, not %d", what, got, want)
	}
	var at *api.At
	if errors.As(err, &at) {
		t.Errorf("%s: the error tells place %d", what, at.Place)
	}
}

// markOf is a head's mark, by the library's sum; also of one that may not be.
func markOf(h api.Head) string { return otherMark('h', num(h.Epoch), h.Root, h.Prev) }

// newBox is one of a seed that may be.
func newBox(t *testing.T, seed string) *seal.Box {
	t.Helper()
	b, err := seal.New(seed)
	check(t, "the box", err, api.OK)
	return b
}

// signed is a head, and its own key's seal.
func signed(t *testing.T, b *seal.Box, h api.Head) api.Signed {
	t.Helper()
	s, err := b.Sign(h.Epoch-1, markOf(h))
	check(t, fmt.Sprint("the seal of epoch ", h.Epoch), err, api.OK)
	return api.Signed{Head: h, Seal: s}
}

// linked are signed heads of roots, one behind the other.
func linked(t *testing.T, b *seal.Box, roots ...string) []api.Signed {
	t.Helper()
	var l []api.Signed
	prev := zeros()
	for i, root := range roots {
		h := api.Head{Epoch: i + 1, Root: root, Prev: prev}
		l, prev = append(l, signed(t, b, h)), markOf(h)
	}
	return l
}

// roots are n marks.
func roots(from, n int) []string {
	var l []string
	for i := range n {
		l = append(l, drawn(from+i))
	}
	return l
}

// with is a list with another mark in a place.
func with(l []string, at int, mark string) []string {
	l = slices.Clone(l)
	l[at] = mark
	return l
}

// newAuditor is one of what may be a public mark.
func newAuditor(t *testing.T, public string) *audit.Auditor {
	t.Helper()
	a, err := audit.New(public)
	check(t, fmt.Sprintf("New of %x", public), err, api.OK)
	if a == nil {
		t.Fatalf("there is no auditor of %x", public)
	}
	return a
}

// checkAll: an auditor knows just those forks, and that last epoch, each time it is asked.
func checkAll(t *testing.T, what string, a *audit.Auditor, last int, want ...audit.Fork) {
	t.Helper()
	for range 3 {
		if got := a.Forks(); !slices.Equal(got, want) {
			t.Errorf("%s: the forks are %v, not %v", what, got, want)
		}
		if got := a.Last(); got != last {
			t.Errorf("%s: the last epoch is %d, not %d", what, got, last)
		}
	}
}

// tells: somebody is told heads, without an error.
func tells(t *testing.T, a *audit.Auditor, name string, l ...api.Signed) {
	t.Helper()
	for i, s := range l {
		check(t, fmt.Sprintf("Tell %q number %d", name, i), a.Tell(name, s), api.OK)
	}
}

// refuses: somebody is told a head with an error, and nothing is noted.
func refuses(t *testing.T, what string, a *audit.Auditor, name string, s api.Signed, want api.Errno) {
	t.Helper()
	last, forks := a.Last(), a.Forks()
	check(t, what, a.Tell(name, s), want)
	checkAll(t, what, a, last, forks...)
}

// TestNoAuditor: 10.1: of what has not 16 bytes there is no auditor.
func TestNoAuditor(t *testing.T) {
	for _, bad := range append(notMarks(), drawn(1)[:15], drawn(1)+"\x00") {
		a, err := audit.New(bad)
		check(t, fmt.Sprintf("New of %q", bad), err, api.ErrArg)
		if a != nil {
			t.Errorf("New of %q tells an auditor beside an error", bad)
		}
	}
}

// TestNew: 10.1: of any mark there is an auditor; while nobody was told anything there is no fork, and no epoch.
func TestNew(t *testing.T) {
	for _, public := range []string{zeros(), strings.Repeat("\xff", 16), "0123456789abcdef", drawn(1)} {
		checkAll(t, fmt.Sprintf("%x", public), newAuditor(t, public), 0)
	}
}

// TestNoForks: 10.1: who is told the same is told no two heads of one epoch, however far each is told; the greatest epoch is the one told, whoever was told it, and whoever is told less behind it.
func TestNoForks(t *testing.T) {
	b := newBox(t, drawn(2))
	l := linked(t, b, roots(10, 8)...)
	for _, far := range [][]int{{8, 8}, {1, 8}, {8, 1}, {0, 3}, {2, 5, 3}, {4}, {1, 1, 1, 1}} {
		a, last := newAuditor(t, b.Public()), 0
		for i, n := range far {
			for k, s := range l[:n] {
				tells(t, a, fmt.Sprint("name ", i), s, s, l[0])
				last = max(last, k+1)
				checkAll(t, fmt.Sprint(far, i, k), a, last)
			}
		}
	}
}

// TestFork: 10.1: of two that were told two heads of one epoch it is told, with the first such epoch: at once, and as well when both were told more; who was told less, or more, makes no difference.
func TestFork(t *testing.T) {
	b := newBox(t, drawn(3))
	r := roots(20, 8)
	for at := range 8 {
		one, two := linked(t, b, r...), linked(t, b, with(r, at, drawn(30))...)
		want := audit.Fork{A: "ann", B: "bob", Epoch: at + 1}
		for n := range 9 {
			for m := range 9 {
				a := newAuditor(t, b.Public())
				tells(t, a, "ann", one[:n]...)
				tells(t, a, "bob", two[:m]...)
				what := fmt.Sprintf("parted at %d, %d and %d told", at, n, m)
				if min(n, m) > at {
					checkAll(t, what, a, max(n, m), want)
				} else {
					checkAll(t, what, a, max(n, m))
				}
			}
		}
	}
}

// TestForkTurn: 10.1: it is one fork whoever of two is told first, and told in turns.
func TestForkTurn(t *testing.T) {
	b := newBox(t, drawn(4))
	r := roots(40, 8)
	one, two := linked(t, b, r...), linked(t, b, with(with(r, 2, drawn(50)), 5, drawn(51))...)
	for _, names := range [][2]string{{"ann", "bob"}, {"bob", "ann"}} {
		a := newAuditor(t, b.Public())
		for n := range 8 {
			tells(t, a, names[0], one[n])
			if n > 2 {
				checkAll(t, fmt.Sprint("one more, ", n), a, n+1, audit.Fork{A: "ann", B: "bob", Epoch: 3})
			} else {
				checkAll(t, fmt.Sprint("one more, ", n), a, n+1)
			}
			tells(t, a, names[1], two[n])
			if n >= 2 {
				checkAll(t, fmt.Sprint("both, ", n), a, n+1, audit.Fork{A: "ann", B: "bob", Epoch: 3})
			} else {
				checkAll(t, fmt.Sprint("both, ", n), a, n+1)
			}
		}
	}
}

// TestForkBit: 10.1: heads are two ones if one bit of their roots is another one, wherever it is.
func TestForkBit(t *testing.T) {
	b := newBox(t, drawn(5))
	r := roots(60, 2)
	one := linked(t, b, r...)
	for k := range 128 {
		for at := range r {
			two := linked(t, b, with(r, at, turned(r[at], k))...)
			a := newAuditor(t, b.Public())
			tells(t, a, "ann", one...)
			tells(t, a, "bob", two...)
			checkAll(t, fmt.Sprintf("bit %d of root %d", k, at), a, 2, audit.Fork{A: "ann", B: "bob", Epoch: at + 1})
		}
	}
}

// TestNames: 10.1: names are any texts, told apart and put in order byte by byte; A is ahead of B.
func TestNames(t *testing.T) {
	names := []string{"", "\x00", "\x00\x00", " ", "1", "10", "9", "A", "Ann", "a", "a\x00", "a b", "aa", "ann", "ann ", "ann0", "b", "z", "\x7f", "\x80", "\xc3", "\xc3\xa4", "ä ", "\xed\xa0\x80", "\uffff", "\U0001f600", "\xff", "\xff\xff", strings.Repeat("\xff", 300)}
	b := newBox(t, drawn(6))
	one, two := linked(t, b, drawn(70), drawn(71)), linked(t, b, drawn(70), drawn(72))
	for step := 1; step < 6; step++ {
		a := newAuditor(t, b.Public())
		var want []audit.Fork
		for i := range names {
			k := (i*11 + step) % len(names)
			if k%step == 0 {
				tells(t, a, names[k], one...)
			} else {
				tells(t, a, names[k], two...)
			}
		}
		for i := range names {
			for k := i + 1; k < len(names); k++ {
				if (i%step == 0) != (k%step == 0) {
					want = append(want, audit.Fork{A: names[i], B: names[k], Epoch: 2})
				}
			}
		}
		checkAll(t, fmt.Sprint("each number ", step), a, 2, want...)
	}
}

// TestManyTruths: 10.1: of each two names it is told, each with its own first epoch; in order by A, then B, not by epoch.
func TestManyTruths(t *testing.T) {
	b := newBox(t, drawn(7))
	r := roots(80, 5)
	a := newAuditor(t, b.Public())
	tells(t, a, "d", linked(t, b, r...)...)
	tells(t, a, "c", linked(t, b, with(r, 4, drawn(90))...)...)
	tells(t, a, "e", linked(t, b, r[:3]...)...)
	tells(t, a, "a", linked(t, b, with(r, 3, drawn(91))[:4]...)...)
	tells(t, a, "b", linked(t, b, with(r, 0, drawn(92))[:2]...)...)
	tells(t, a, "f", linked(t, b, with(with(r, 0, drawn(92)), 1, drawn(93))...)...)
	checkAll(t, "six names", a, 5,
		audit.Fork{A: "a", B: "b", Epoch: 1}, audit.Fork{A: "a", B: "c", Epoch: 4}, audit.Fork{A: "a", B: "d", Epoch: 4}, audit.Fork{A: "a", B: "f", Epoch: 1},
		audit.Fork{A: "b", B: "c", Epoch: 1}, audit.Fork{A: "b", B: "d", Epoch: 1}, audit.Fork{A: "b", B: "e", Epoch: 1}, audit.Fork{A: "b", B: "f", Epoch: 2},
		audit.Fork{A: "c", B: "d", Epoch: 5}, audit.Fork{A: "c", B: "f", Epoch: 1},
		audit.Fork{A: "d", B: "f", Epoch: 1},
		audit.Fork{A: "e", B: "f", Epoch: 1})
}

// wrong are signed heads that no client takes that has seen those ahead of one, each with its error.
func wrong(t *testing.T, b *seal.Box, s api.Signed) map[api.Errno][]api.Signed {
	t.Helper()
	h, k := s.Head, s.Seal
	elsewhere := api.Head{Epoch: h.Epoch, Root: h.Root, Prev: turned(h.Prev, 5)}
	l := map[api.Errno][]api.Signed{api.ErrFalse: {signed(t, b, elsewhere)}}
	if h.Epoch < 8 {
		l[api.ErrOrder] = []api.Signed{signed(t, b, api.Head{Epoch: h.Epoch + 1, Root: h.Root, Prev: markOf(h)}), signed(t, b, api.Head{Epoch: 8, Root: drawn(1), Prev: drawn(2)})}
	}
	spoilt := []api.Signed{{}, {Head: h}, {Seal: k}, {Head: elsewhere, Seal: k}, signed(t, newBox(t, drawn(99)), h)}
	for _, n := range []int{-1, h.Epoch + 1, math.MaxInt, math.MinInt} {
		spoilt = append(spoilt, api.Signed{Head: api.Head{Epoch: n, Root: h.Root, Prev: h.Prev}, Seal: k})
		spoilt = append(spoilt, api.Signed{Head: h, Seal: api.Seal{Key: n, Sig: k.Sig, Path: k.Path}})
	}
	for _, bad := range append(notMarks(), turned(h.Root, 127)) {
		spoilt = append(spoilt, api.Signed{Head: api.Head{Epoch: h.Epoch, Root: bad, Prev: h.Prev}, Seal: k})
		spoilt = append(spoilt, api.Signed{Head: h, Seal: api.Seal{Key: k.Key, Sig: with(k.Sig, 34, bad), Path: k.Path}})
		spoilt = append(spoilt, api.Signed{Head: h, Seal: api.Seal{Key: k.Key, Sig: k.Sig, Path: with(k.Path, 2, bad)}})
	}
	for _, bad := range notMarks() {
		spoilt = append(spoilt, signed(t, b, api.Head{Epoch: h.Epoch, Root: bad, Prev: h.Prev}))
	}
	l[api.ErrSpoilt] = spoilt
	return l
}

// TestTellErrors: 10.1: See's errors are told, of a new name those of a new client; nothing is noted, of whoever it is told, and what is right is taken all the same.
func TestTellErrors(t *testing.T) {
	b := newBox(t, drawn(8))
	l := linked(t, b, roots(100, 8)...)
	a := newAuditor(t, b.Public())
	for n, s := range l {
		for want, bad := range wrong(t, b, s) {
			for i, x := range bad {
				refuses(t, fmt.Sprintf("%d told, error %d, number %d", n, want, i), a, "ann", x, want)
			}
		}
		for want, bad := range wrong(t, b, l[0]) {
			for i, x := range bad {
				refuses(t, fmt.Sprintf("%d told ann, error %d, number %d of eve", n, want, i), a, "eve", x, want)
			}
		}
		tells(t, a, "ann", s)
		checkAll(t, "ann alone", a, n+1)
	}
	tells(t, a, "eve", l...)
	checkAll(t, "eve at last", a, 8)
}

// TestTellOther: 10.1: who was told one thing is not told another: it is false, and no fork; nor does it hinder others from being told it.
func TestTellOther(t *testing.T) {
	b := newBox(t, drawn(9))
	r := roots(110, 8)
	for at := range 8 {
		one, two := linked(t, b, r...), linked(t, b, with(r, at, drawn(120))...)
		a := newAuditor(t, b.Public())
		tells(t, a, "ann", one...)
		tells(t, a, "ann", two[:at]...)
		for _, s := range two[at:] {
			refuses(t, fmt.Sprintf("parted at %d, epoch %d", at, s.Head.Epoch), a, "ann", s, api.ErrFalse)
		}
		tells(t, a, "Ann", two...)
		checkAll(t, "two anns", a, 8, audit.Fork{A: "Ann", B: "ann", Epoch: at + 1})
		for _, s := range one[at:] {
			refuses(t, fmt.Sprintf("parted at %d, epoch %d of the other one", at, s.Head.Epoch), a, "Ann", s, api.ErrFalse)
		}
	}
}

// TestNewNameOrder: 10.1: a new name begins with the first epoch, though others were told more; told something else first, it has that.
func TestNewNameOrder(t *testing.T) {
	b := newBox(t, drawn(10))
	l, other := linked(t, b, roots(130, 8)...), linked(t, b, roots(140, 8)...)
	a := newAuditor(t, b.Public())
	tells(t, a, "ann", l...)
	for _, s := range append(l[1:], other[1:]...) {
		refuses(t, fmt.Sprint("epoch ", s.Head.Epoch, " first"), a, "bob", s, api.ErrOrder)
	}
	tells(t, a, "bob", other[0])
	refuses(t, "the other chain's first", a, "bob", l[0], api.ErrFalse)
	refuses(t, "the other chain's second", a, "bob", l[1], api.ErrFalse)
	refuses(t, "the other chain's third", a, "bob", l[2], api.ErrOrder)
	checkAll(t, "bob has the other one", a, 8, audit.Fork{A: "ann", B: "bob", Epoch: 1})
}

// model is what an auditor should be: of each name a client of its own, and what it was told.
type model struct {
	public  string
	clients map[string]*client.Client
}

// tell is what Tell should be.
func (m *model) tell(name string, s api.Signed) error {
	if m.clients[name] == nil {
		m.clients[name], _ = client.New(m.public)
	}
	return m.clients[name].See(s)
}

// forks and last are what Forks and Last should be: each epoch of each two is held against one another.
func (m *model) forks() (l []audit.Fork, last int) {
	for one, a := range m.clients {
		last = max(last, len(a.Heads()))
		for two, b := range m.clients {
			for i, h := range a.Heads() {
				if k := slices.IndexFunc(b.Heads(), func(x api.Head) bool { return x.Epoch == h.Epoch && x != h }); k >= 0 && one < two {
					l = append(l, audit.Fork{A: one, B: two, Epoch: i + 1})
					break
				}
			}
		}
	}
	slices.SortFunc(l, func(a, b audit.Fork) int { return cmp.Or(cmp.Compare(a.A, b.A), cmp.Compare(a.B, b.B)) })
	return l, last
}

// TestAnyOrder: 10.1: told in any order, of any of some chains that part, with errors in between, an auditor tells what each name's client and a look at each two tell.
func TestAnyOrder(t *testing.T) {
	b := newBox(t, drawn(11))
	r := roots(150, 5)
	var all []api.Signed
	for at := range 4 {
		all = append(all, linked(t, b, with(r, at, drawn(160+at))...)...)
	}
	all = append(all, linked(t, b, r...)...)
	broken := all[3]
	broken.Seal.Sig = with(broken.Seal.Sig, 3, drawn(170))
	all = append(all, broken)
	for seed := range 4 {
		x := uint32(seed)
		draw := func(n int) int {
			x = x*1664525 + 1013904223
			return int(x>>16) % n
		}
		a, m := newAuditor(t, b.Public()), &model{b.Public(), map[string]*client.Client{}}
		for i := range 150 {
			name, s := []string{"ann", "bob", "Eve", "eve", "", "\xff"}[draw(6)], all[draw(len(all))]
			what := fmt.Sprintf("seed %d, number %d", seed, i)
			check(t, what, a.Tell(name, s), api.Tell(m.tell(name, s)))
			forks, last := m.forks()
			checkAll(t, what, a, last, forks...)
		}
	}
}

// TestDirectories: 10.1: whoever is told by another directory of the same secret is found, from the epoch on in which a value was another one.
func TestDirectories(t *testing.T) {
	var two [2]*dir.Dir
	for i := range two {
		d, err := dir.New(drawn(12))
		check(t, "the directory", err, api.OK)
		two[i] = d
	}
	a := newAuditor(t, two[0].Public())
	for n := range 5 {
		for i, d := range two {
			value := fmt.Sprint("key ", n)
			if n >= 3 {
				value = fmt.Sprint("key ", n+i)
			}
			check(t, "Put", d.Put("ann", value), api.OK)
			s, err := d.Publish()
			check(t, "Publish", err, api.OK)
			tells(t, a, []string{"bob", "Bob"}[i], s)
			tells(t, a, "carl", two[0].Epochs()...)
		}
		want := []audit.Fork{{A: "Bob", B: "bob", Epoch: 4}, {A: "Bob", B: "carl", Epoch: 4}}
		if n < 3 {
			want = nil
		}
		checkAll(t, fmt.Sprint("epoch ", n+1), a, n+1, want...)
	}
	stranger, err := dir.New(drawn(13))
	check(t, "another directory", err, api.OK)
	s, err := stranger.Publish()
	check(t, "Publish", err, api.OK)
	refuses(t, "another secret, of a name", a, "bob", s, api.ErrSpoilt)
	refuses(t, "another secret, of a new name", a, "dan", s, api.ErrSpoilt)
}

// TestFreshForks: P4: forks that were told are the caller's, also behind their list's length.
func TestFreshForks(t *testing.T) {
	b := newBox(t, drawn(14))
	a := newAuditor(t, b.Public())
	var want []audit.Fork
	for i := range 5 {
		name := string(rune('a' + i))
		tells(t, a, name, linked(t, b, drawn(180+i))...)
		for k := range i {
			want = append(want, audit.Fork{A: string(rune('a' + k)), B: name, Epoch: 1})
		}
		slices.SortFunc(want, func(a, b audit.Fork) int { return cmp.Or(cmp.Compare(a.A, b.A), cmp.Compare(a.B, b.B)) })
		got, kept := a.Forks(), a.Forks()
		clear(got[:cap(got)])
		checkAll(t, "written into", a, 1, want...)
		if !slices.Equal(kept, want) {
			t.Errorf("forks that were told are now %v", kept)
		}
	}
}

// TestLeavesLists: P4: no list of a seal is written into or kept, nor what stands behind its length.
func TestLeavesLists(t *testing.T) {
	b := newBox(t, drawn(15))
	a := newAuditor(t, b.Public())
	for _, x := range linked(t, b, roots(190, 8)...) {
		s := x
		sig, path := append(slices.Clone(x.Seal.Sig), "behind", "it"), append(slices.Clone(x.Seal.Path), "behind", "it")
		s.Seal.Sig, s.Seal.Path = sig[:len(sig)-2], path[:len(path)-2]
		tells(t, a, "ann", s, s)
		tells(t, a, "bob", s)
		if !slices.Equal(sig, append(slices.Clone(x.Seal.Sig), "behind", "it")) || !slices.Equal(path, append(slices.Clone(x.Seal.Path), "behind", "it")) {
			t.Errorf("epoch %d: the lists are now %x and %x", x.Head.Epoch, sig, path)
		}
		clear(sig)
		clear(path)
		refuses(t, "written into", a, "ann", s, api.ErrSpoilt)
		tells(t, a, "ann", x)
		checkAll(t, "both", a, x.Head.Epoch)
	}
}

// TestAuditorsApart: P4: what one auditor was told another one was not.
func TestAuditorsApart(t *testing.T) {
	b := newBox(t, drawn(16))
	one, two := linked(t, b, roots(200, 3)...), linked(t, b, roots(210, 3)...)
	first, second := newAuditor(t, b.Public()), newAuditor(t, b.Public())
	tells(t, first, "ann", one...)
	tells(t, second, "ann", two[:2]...)
	tells(t, second, "bob", one[0])
	checkAll(t, "the first one", first, 3)
	checkAll(t, "the second one", second, 2, audit.Fork{A: "ann", B: "bob", Epoch: 1})
	refuses(t, "two told", second, "bob", one[2], api.ErrOrder)
	refuses(t, "nothing told", first, "bob", one[2], api.ErrOrder)
	checkAll(t, "a third one", newAuditor(t, b.Public()), 0)
	other := newAuditor(t, turned(b.Public(), 127))
	refuses(t, "of another public mark", other, "ann", one[0], api.ErrSpoilt)
}

func BenchmarkForks(b *testing.B) {
	box, _ := seal.New(drawn(1))
	a, _ := audit.New(box.Public())
	for i := range 300 {
		h := api.Head{Epoch: 1, Root: drawn(i % 3), Prev: zeros()}
		s, _ := box.Sign(0, markOf(h))
		a.Tell(fmt.Sprint(i), api.Signed{Head: h, Seal: s})
	}
	for b.Loop() {
		a.Forks()
	}
}
