package seal_test

import (
	"crypto/sha256"
	"encoding/binary"
	"errors"
	"fmt"
	"math"
	"slices"
	"strings"
	"testing"

	"rollkeeper/api"
	"rollkeeper/once"
	"rollkeeper/seal"
)

// otherMark is a mark by the library's sum, its text laid out part by part.
func otherMark(kind byte, parts ...string) string {
	text := []byte{kind}
	for _, p := range parts {
		text = binary.BigEndian.AppendUint64(text, uint64(len(p)))
		text = append(text, p...)
	}
	h := sha256.Sum256(text)
	return string(h[:16])
}

// num is a number as eight bytes.
func num(n int) string { return string(binary.BigEndian.AppendUint64(nil, uint64(n))) }

// drawn is a mark that looks drawn, the same each time.
func drawn(seed int) string {
	b := make([]byte, api.MarkSize)
	x := uint32(seed)*2654435761 + 1
	for i := range b {
		x = x*1664525 + 1013904223
		b[i] = byte(x >> 24)
	}
	return string(b)
}

// turned is a mark with another bit k.
func turned(mark string, k int) string {
	b := []byte(mark)
	b[k/8] ^= 0x80 >> (k % 8)
	return string(b)
}

// marks are some of every kind.
func marks() []string {
	return []string{strings.Repeat("\x00", 16), strings.Repeat("\xff", 16), "abcdefghijklmnop", "\x01\x23\x45\x67\x89\xab\xcd\xef\xfe\xdc\xba\x98\x76\x54\x32\x10", drawn(1), drawn(2)}
}

// notMarks are texts of other sizes than a mark's.
func notMarks() []string {
	return []string{"", "\x00", strings.Repeat("\x00", 15), strings.Repeat("\xff", 17), strings.Repeat("a", 32), strings.Repeat("ä", 16)}
}

// notKeys are numbers that no key of a box has; of many the least bits are some key's.
func notKeys() []int {
	return []int{-1, -2, -8, 8, 9, 13, 15, 16, 255, 256, 1 << 32, math.MaxInt32, math.MinInt32, math.MaxInt, math.MinInt}
}

// rowOf are the marks of a seed's keys, made by hand.
func rowOf(t *testing.T, seed string) []string {
	t.Helper()
	var row []string
	for k := range 8 {
		public, err := once.Public(seed, k)
		check(t, fmt.Sprintf("%x, key %d", seed, k), err, api.OK)
		row = append(row, otherMark('t', num(k), public))
	}
	return row
}

// over is the one mark of some keys' marks, from above.
func over(row []string) string {
	if len(row) == 1 {
		return row[0]
	}
	half := len(row) / 2
	return otherMark('u', over(row[:half]), over(row[half:]))
}

// pathOf are the marks beside each key's way, of which keys, written out by hand.
func pathOf(row []string, key int) []string {
	beside := [8][3][2]int{
		{{1, 2}, {2, 4}, {4, 8}},
		{{0, 1}, {2, 4}, {4, 8}},
		{{3, 4}, {0, 2}, {4, 8}},
		{{2, 3}, {0, 2}, {4, 8}},
		{{5, 6}, {6, 8}, {0, 4}},
		{{4, 5}, {6, 8}, {0, 4}},
		{{7, 8}, {4, 6}, {0, 4}},
		{{6, 7}, {4, 6}, {0, 4}},
	}
	var path []string
	for _, at := range beside[key] {
		path = append(path, over(row[at[0]:at[1]]))
	}
	return path
}

// led is where a seal leads, whatever it is of: what would be believed, if nothing but the end were looked at.
func led(mark string, s api.Seal) string {
	signer, _ := once.From(mark, s.Sig)
	own := otherMark('t', num(s.Key), signer)
	for level, beside := range s.Path {
		if s.Key>>level&1 == 1 {
			own = otherMark('u', beside, own)
		} else {
			own = otherMark('u', own, beside)
		}
	}
	return own
}

// with is a list with another mark in a place.
func with(l []string, at int, mark string) []string {
	l = slices.Clone(l)
	l[at] = mark
	return l
}

// check: an error is just the one that is wanted, and tells no place.
func check(t *testing.T, what string, err error, want api.Errno) {
	t.Helper()
	if got := api.Tell(err); got != want {
		t.Errorf("%s: error %d, not %d", what, got, want)
	}
	var at *api.At
	if errors.As(err, &at) {
		t.Errorf("%s: the error tells place %d", what, at.Place)
	}
}

// box is one of a seed that may be.
func box(t *testing.T, seed string) *seal.Box {
	t.Helper()
	b, err := seal.New(seed)
	check(t, fmt.Sprintf("New of %x", seed), err, api.OK)
	if b == nil {
		t.Fatalf("there is no box of %x", seed)
	}
	return b
}

// signed is a seal that may be.
func signed(t *testing.T, b *seal.Box, key int, mark string) api.Seal {
	t.Helper()
	s, err := b.Sign(key, mark)
	check(t, fmt.Sprintf("key %d of %x", key, mark), err, api.OK)
	return s
}

// checkSeal: a seal is just that key's of a mark.
func checkSeal(t *testing.T, what string, got api.Seal, seed string, row []string, key int, mark string) {
	t.Helper()
	sig, err := once.Sign(seed, key, mark)
	check(t, what, err, api.OK)
	if got.Key != key || !slices.Equal(got.Sig, sig) || !slices.Equal(got.Path, pathOf(row, key)) {
		t.Errorf("%s: the seal is %x, not %x", what, got, api.Seal{Key: key, Sig: sig, Path: pathOf(row, key)})
	}
}

// checkNoSign: an error, and nothing beside it.
func checkNoSign(t *testing.T, b *seal.Box, key int, mark string, want api.Errno) {
	t.Helper()
	s, err := b.Sign(key, mark)
	what := fmt.Sprintf("key %d of %q", key, mark)
	check(t, what, err, want)
	if s.Key != 0 || len(s.Sig) != 0 || len(s.Path) != 0 {
		t.Errorf("%s: Sign tells %x beside an error", what, s)
	}
}

// checkVerify: a seal is believed, or not.
func checkVerify(t *testing.T, what, public, mark string, s api.Seal, want bool) {
	t.Helper()
	if got := seal.Verify(public, mark, s); got != want {
		t.Errorf("%s: Verify is %v, not %v", what, got, want)
	}
}

// checkRefused: a seal is not believed, by that public mark or by the one to which it leads.
func checkRefused(t *testing.T, what, public, mark string, s api.Seal) {
	t.Helper()
	checkVerify(t, what, public, mark, s, false)
	checkVerify(t, what+", by where it leads", led(mark, s), mark, s, false)
}

// checkElsewhere: a seal is not believed by that public mark, but by the one to which it leads.
func checkElsewhere(t *testing.T, what, public, mark string, s api.Seal) {
	t.Helper()
	checkVerify(t, what, public, mark, s, false)
	checkVerify(t, what+", by where it leads", led(mark, s), mark, s, true)
}

// TestBounds: 7.1: there are eight keys; a seal has 35 marks of one, and three beside its way.
func TestBounds(t *testing.T) {
	s := signed(t, box(t, drawn(1)), 7, drawn(2))
	if api.Keys != 8 || len(s.Sig) != 35 || len(s.Path) != 3 {
		t.Errorf("%d keys, %d marks, %d beside the way", api.Keys, len(s.Sig), len(s.Path))
	}
}

// TestPublic: 7.1: a box is known by the one mark over the marks of its eight keys.
func TestPublic(t *testing.T) {
	for _, seed := range marks() {
		b, want := box(t, seed), over(rowOf(t, seed))
		for range 2 {
			if got := b.Public(); got != want {
				t.Errorf("%x: Public is %x, not %x", seed, got, want)
			}
		}
	}
}

// TestSign: 7.1: each key of each seed tells of each mark what it tells alone, and what leads from it to the box's mark; and that is believed.
func TestSign(t *testing.T) {
	for _, seed := range marks() {
		b, row := box(t, seed), rowOf(t, seed)
		for key := range 8 {
			for _, mark := range marks() {
				what := fmt.Sprintf("%x, key %d, of %x", seed, key, mark)
				s := signed(t, b, key, mark)
				checkSeal(t, what, s, seed, row, key, mark)
				checkVerify(t, what, over(row), mark, s, true)
			}
		}
	}
}

// TestKeyFivesWay: the document's example: the marks of 4, of 6 and 7, of 0 to 3.
func TestKeyFivesWay(t *testing.T) {
	seed := drawn(5)
	r := rowOf(t, seed)
	want := []string{
		r[4],
		otherMark('u', r[6], r[7]),
		otherMark('u', otherMark('u', r[0], r[1]), otherMark('u', r[2], r[3])),
	}
	if got := signed(t, box(t, seed), 5, drawn(6)).Path; !slices.Equal(got, want) {
		t.Errorf("key 5's way is %x, not %x", got, want)
	}
}

// TestNoBox: 7.1: of a seed of another size than 16 bytes there is no box.
func TestNoBox(t *testing.T) {
	for _, bad := range notMarks() {
		b, err := seal.New(bad)
		check(t, fmt.Sprintf("New of %q", bad), err, api.ErrArg)
		if b != nil {
			t.Errorf("New of %q tells a box beside an error", bad)
		}
	}
}

// TestNoSign: 7.1: a number that no key has is ErrRange, whatever the mark is; then a mark of another size is ErrArg; a box goes on as before.
func TestNoSign(t *testing.T) {
	seed, mark := drawn(7), drawn(8)
	b, row := box(t, seed), rowOf(t, seed)
	for _, key := range notKeys() {
		for _, m := range append(notMarks(), marks()...) {
			checkNoSign(t, b, key, m, api.ErrRange)
		}
	}
	for key := range 8 {
		for _, bad := range notMarks() {
			checkNoSign(t, b, key, bad, api.ErrArg)
		}
		checkSeal(t, fmt.Sprint("behind errors, key ", key), signed(t, b, key, mark), seed, row, key, mark)
	}
	if b.Public() != over(row) {
		t.Error("behind errors Public is another one")
	}
}

// TestVerifyKey: 7.1: another key's number is not believed, and none that no key has, wherever it leads.
func TestVerifyKey(t *testing.T) {
	b, mark := box(t, drawn(10)), drawn(11)
	for key := range 8 {
		s := signed(t, b, key, mark)
		checkVerify(t, fmt.Sprint("key ", key), b.Public(), mark, s, true)
		for other := range 8 {
			if s.Key = other; other != key {
				checkElsewhere(t, fmt.Sprintf("key %d as %d", key, other), b.Public(), mark, s)
			}
		}
		for _, bad := range append(notKeys(), key+8, key-8, key+1<<40, key+math.MinInt) {
			s.Key = bad
			checkRefused(t, fmt.Sprintf("key %d as %d", key, bad), b.Public(), mark, s)
		}
	}
}

// TestVerifyPathSize: 7.1: more or fewer than three beside the way, or one of another size than 16 bytes, are not believed, wherever they lead.
func TestVerifyPathSize(t *testing.T) {
	b, mark := box(t, drawn(12)), drawn(13)
	for key := range 8 {
		s := signed(t, b, key, mark)
		path := s.Path
		refused := func(what string, p []string) {
			t.Helper()
			s.Path = p
			checkRefused(t, fmt.Sprintf("key %d, %s", key, what), b.Public(), mark, s)
		}
		refused("no way", nil)
		for n := range 12 {
			if n != 3 {
				refused(fmt.Sprint(n, " marks"), slices.Repeat(path, 4)[:n])
			}
		}
		for at := range path {
			for _, bad := range notMarks() {
				refused(fmt.Sprintf("beside %d is %q", at, bad), with(path, at, bad))
			}
			refused(fmt.Sprint("shorter beside ", at), with(path, at, path[at][:15]))
			refused(fmt.Sprint("longer beside ", at), with(path, at, path[at]+"\x00"))
			refused(fmt.Sprint("left out ", at), slices.Delete(slices.Clone(path), at, at+1))
		}
	}
}

// TestVerifyPath: 7.1: three marks that lead elsewhere are not believed.
func TestVerifyPath(t *testing.T) {
	b, mark := box(t, drawn(12)), drawn(13)
	for key := range 8 {
		s := signed(t, b, key, mark)
		path := s.Path
		checkVerify(t, fmt.Sprint("key ", key), b.Public(), mark, s, true)
		for at := range path {
			for k := range api.Depth {
				s.Path = with(path, at, turned(path[at], k))
				checkElsewhere(t, fmt.Sprintf("key %d, another bit %d beside %d", key, k, at), b.Public(), mark, s)
			}
			s.Path = with(path, at, path[(at+1)%3])
			checkElsewhere(t, fmt.Sprintf("key %d, the next one beside %d", key, at), b.Public(), mark, s)
		}
		s.Path = []string{path[2], path[1], path[0]}
		checkElsewhere(t, fmt.Sprintf("key %d, back to front", key), b.Public(), mark, s)
	}
}

// TestVerifySig: 7.1: what From tells an error of is not believed, wherever it leads; and not what leads elsewhere.
func TestVerifySig(t *testing.T) {
	b, mark := box(t, drawn(14)), drawn(15)
	for key := range 8 {
		s := signed(t, b, key, mark)
		sig := s.Sig
		for n := range 72 {
			if n != 35 {
				s.Sig = slices.Repeat(sig, 3)[:n]
				checkRefused(t, fmt.Sprintf("key %d, %d marks", key, n), b.Public(), mark, s)
			}
		}
		for at := range sig {
			for _, bad := range notMarks() {
				s.Sig = with(sig, at, bad)
				checkRefused(t, fmt.Sprintf("key %d, number %d is %q", key, at, bad), b.Public(), mark, s)
			}
			s.Sig = with(sig, at, turned(sig[at], key))
			checkElsewhere(t, fmt.Sprintf("key %d, number %d with another bit", key, at), b.Public(), mark, s)
		}
		s.Sig = sig
		checkVerify(t, fmt.Sprint("key ", key), b.Public(), mark, s, true)
	}
}

// TestVerifyMark: 7.1: a seal of one mark is none of another one; and of no MARK there is none.
func TestVerifyMark(t *testing.T) {
	b := box(t, drawn(16))
	for i, mark := range marks() {
		s := signed(t, b, i, mark)
		for k := range api.Depth {
			checkVerify(t, fmt.Sprintf("%x with another bit %d", mark, k), b.Public(), turned(mark, k), s, false)
		}
		for j, other := range marks() {
			checkVerify(t, fmt.Sprintf("of %x as of %x", mark, other), b.Public(), other, s, i == j)
		}
		for _, bad := range append(notMarks(), mark[:15], mark+"\x00") {
			checkRefused(t, fmt.Sprintf("of %x as of %q", mark, bad), b.Public(), bad, s)
		}
	}
}

// TestVerifyPublic: 7.1: a seal is believed by one public mark alone; by what is no MARK none is.
func TestVerifyPublic(t *testing.T) {
	b, mark := box(t, drawn(17)), drawn(18)
	row := rowOf(t, drawn(17))
	for key := range 8 {
		s := signed(t, b, key, mark)
		signer, _ := once.From(mark, s.Sig)
		all := append(notMarks(), marks()...)
		all = append(all, signer, row[key], over(row[:4]), over(row[4:]), b.Public()[:15], b.Public()+"\x00")
		for k := range api.Depth {
			all = append(all, turned(b.Public(), k))
		}
		for _, public := range all {
			checkVerify(t, fmt.Sprintf("key %d, by %q", key, public), public, mark, s, false)
		}
	}
	for _, public := range append(notMarks(), marks()...) {
		checkVerify(t, "no seal", public, mark, api.Seal{}, false)
		checkVerify(t, "nothing", public, "", api.Seal{}, false)
	}
}

// TestOneBoxAlone: 7.1: boxes of other seeds are known by other marks, and believe none of one another's seals; each goes its own way.
func TestOneBoxAlone(t *testing.T) {
	mark := drawn(20)
	var seeds []string
	for _, k := range []int{0, 7, 8, 60, 127} {
		seeds = append(seeds, turned(drawn(21), k))
	}
	seeds = append(seeds, drawn(21))
	var boxes []*seal.Box
	for _, seed := range seeds {
		boxes = append(boxes, box(t, seed))
	}
	for i, b := range boxes {
		row := rowOf(t, seeds[i])
		for key := range 8 {
			s := signed(t, b, key, mark)
			what := fmt.Sprintf("box %d, key %d", i, key)
			checkSeal(t, what, s, seeds[i], row, key, mark)
			for j, other := range boxes {
				checkVerify(t, fmt.Sprintf("%s, by box %d", what, j), other.Public(), mark, s, i == j)
			}
		}
	}
}

// TestSignAgain: 7.1: a key that signed signs again, of the same mark just so, and of another one; what it signed before stays believed.
func TestSignAgain(t *testing.T) {
	seed := drawn(30)
	b, row := box(t, seed), rowOf(t, seed)
	for range 2 {
		for _, mark := range marks() {
			s := signed(t, b, 3, mark)
			checkSeal(t, fmt.Sprintf("of %x", mark), s, seed, row, 3, mark)
			checkVerify(t, fmt.Sprintf("of %x", mark), b.Public(), mark, s, true)
		}
	}
}

// TestLeavesLists: P4: what comes out is fresh: a box does not change with what is written into it.
func TestLeavesLists(t *testing.T) {
	seed, mark := drawn(40), drawn(41)
	b, row := box(t, seed), rowOf(t, seed)
	for range 2 {
		for key := range 8 {
			s := signed(t, b, key, mark)
			checkSeal(t, fmt.Sprint("key ", key), s, seed, row, key, mark)
			for _, l := range [][]string{s.Sig[:cap(s.Sig)], s.Path[:cap(s.Path)]} {
				for i := range l {
					l[i] = "written"
				}
			}
			if b.Public() != over(row) {
				t.Fatalf("behind key %d Public is %x", key, b.Public())
			}
		}
	}
}

// TestSealsStay: P4: no seal changes with what its box tells later.
func TestSealsStay(t *testing.T) {
	seed := drawn(44)
	b, row := box(t, seed), rowOf(t, seed)
	var told []api.Seal
	for n := range 16 {
		told = append(told, signed(t, b, n%8, drawn(n)))
	}
	for n, s := range told {
		checkSeal(t, fmt.Sprint("seal ", n), s, seed, row, n%8, drawn(n))
	}
}

// TestVerifyLeavesLists: P4: neither a seal's lists nor what stands behind their length is written into.
func TestVerifyLeavesLists(t *testing.T) {
	b, mark := box(t, drawn(42)), drawn(43)
	s := signed(t, b, 6, mark)
	sig, path := append(s.Sig, "behind", "it"), append(s.Path, "behind", "it")
	wasSig, wasPath := slices.Clone(sig), slices.Clone(path)
	s.Sig, s.Path = sig[:35], path[:3]
	checkVerify(t, "the lists' beginnings", b.Public(), mark, s, true)
	for n := range path {
		for key := range 8 {
			seal.Verify(b.Public(), drawn(n), api.Seal{Key: key, Sig: sig[:33+n], Path: path[:n]})
		}
	}
	checkVerify(t, "once more", b.Public(), mark, s, true)
	if !slices.Equal(sig, wasSig) || !slices.Equal(path, wasPath) {
		t.Errorf("the lists are now %x and %x", sig, path)
	}
}

// TestAgain: P4: what a call answers hangs on its arguments, and on its box's seed, alone.
func TestAgain(t *testing.T) {
	b := box(t, drawn(50))
	ask := func() string {
		s, err := b.Sign(2, drawn(51))
		return fmt.Sprintf("%q", []any{b.Public(), s, api.Tell(err), seal.Verify(b.Public(), drawn(51), s)})
	}
	first := ask()
	for n := range 20 {
		other := box(t, drawn(n))
		s, _ := other.Sign(n, drawn(n+1))
		seal.Verify(b.Public(), drawn(n), s)
		b.Sign(n-5, drawn(n))
		b.Sign(n, "")
		seal.New("")
		if again := ask(); again != first {
			t.Fatalf("at first %s, then %s", first, again)
		}
	}
}

func BenchmarkNew(b *testing.B) {
	for b.Loop() {
		seal.New(drawn(1))
	}
}
