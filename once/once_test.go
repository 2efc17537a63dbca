package once_test

import (
	"crypto/sha256"
	"encoding/binary"
	"errors"
	"fmt"
	"math"
	"slices"
	"strconv"
	"strings"
	"testing"

	"rollkeeper/api"
	"rollkeeper/once"
)

// otherMark is a mark by the library's sum, its text laid out part by part.
func otherMark(kind byte, parts ...string) string {
	text := []byte{kind}
	for _, p := range parts {
		text = binary.BigEndian.AppendUint64(text, uint64(len(p)))
		text = append(text, p...)
	}
	h := sha256.Sum256(text)
	return string(h[:16])
}

// num is a number as eight bytes.
func num(n int) string { return string(binary.BigEndian.AppendUint64(nil, uint64(n))) }

// drawn is a mark that looks drawn, the same each time.
func drawn(seed int) string {
	b := make([]byte, api.MarkSize)
	x := uint32(seed)*2654435761 + 1
	for i := range b {
		x = x*1664525 + 1013904223
		b[i] = byte(x >> 24)
	}
	return string(b)
}

// turned is a mark with another bit k.
func turned(mark string, k int) string {
	b := []byte(mark)
	b[k/8] ^= 0x80 >> (k % 8)
	return string(b)
}

// zeros and ones are the least and the greatest mark.
func zeros() string { return strings.Repeat("\x00", api.MarkSize) }

func ones() string { return strings.Repeat("\xff", api.MarkSize) }

// marks are some of every kind: of the digits 0, 15, 8, 1, 0 and 15 by turns, and of many.
func marks() []string {
	l := []string{zeros(), ones(), strings.Repeat("\x88", 16), strings.Repeat("\x11", 16), strings.Repeat("\x0f", 16), strings.Repeat("\xf0", 16)}
	return append(l, "\x01\x23\x45\x67\x89\xab\xcd\xef\xfe\xdc\xba\x98\x76\x54\x32\x10", "abcdefghijklmnop", drawn(1), drawn(2), drawn(3))
}

// notMarks are texts of other sizes than a mark's.
func notMarks() []string {
	return []string{"", "\x00", strings.Repeat("\x00", 15), strings.Repeat("\xff", 17), strings.Repeat("a", 32), strings.Repeat("ä", 16)}
}

// keys are numbers of every kind: each may be a key's.
func keys() []int {
	return []int{0, 1, 2, 7, 8, -1, 255, 256, 1 << 40, math.MaxInt32, math.MinInt32, math.MaxInt, math.MinInt}
}

// ladder is a chain, made by hand: all that it has, ahead of step 0, then behind each one.
func ladder(seed string, key, c int) []string {
	l := []string{otherMark('s', seed, num(key), num(c))}
	for k := range 15 {
		l = append(l, otherMark('w', l[k], num(c), num(k)))
	}
	return l
}

// ladders are all 35 of a key.
func ladders(seed string, key int) [][]string {
	var l [][]string
	for c := range 35 {
		l = append(l, ladder(seed, key, c))
	}
	return l
}

// publicOf is the mark of the ladders' ends.
func publicOf(l [][]string) string {
	var ends []string
	for _, steps := range l {
		ends = append(ends, steps[15])
	}
	return otherMark('p', ends...)
}

// digitsOf are read off the mark's hexadecimal digits, and off those of what they lack.
func digitsOf(mark string) []int {
	var l []int
	lack := 0
	for _, r := range fmt.Sprintf("%x", mark) {
		n, _ := strconv.ParseInt(string(r), 16, 0)
		l = append(l, int(n))
		lack += 15 - int(n)
	}
	for _, r := range fmt.Sprintf("%03x", lack) {
		n, _ := strconv.ParseInt(string(r), 16, 0)
		l = append(l, int(n))
	}
	return l
}

// signed is what the ladders have at a mark's digits.
func signed(l [][]string, mark string) []string {
	var sig []string
	for c, digit := range digitsOf(mark) {
		sig = append(sig, l[c][digit])
	}
	return sig
}

// led is to which mark a list leads, whatever it is of.
func led(mark string, sig []string) string {
	var ends []string
	for c, digit := range digitsOf(mark) {
		t := sig[c]
		for k := digit; k <= 14; k++ {
			t = otherMark('w', t, num(c), num(k))
		}
		ends = append(ends, t)
	}
	return otherMark('p', ends...)
}

// with is a list with another mark in a place.
func with(l []string, at int, mark string) []string {
	l = slices.Clone(l)
	l[at] = mark
	return l
}

// check: an error is just the one that is wanted, and tells no place.
func check(t *testing.T, what string, err error, want api.Errno) {
	t.Helper()
	if got := api.Tell(err); got != want {
		t.Errorf("%s: error %d, not %d", what, got, want)
	}
	var at *api.At
	if errors.As(err, &at) {
		t.Errorf("%s: the error tells place %d", what, at.Place)
	}
}

// checkPublic: a key is known by just that.
func checkPublic(t *testing.T, what, seed string, key int, want string) {
	t.Helper()
	got, err := once.Public(seed, key)
	check(t, what, err, api.OK)
	if got != want {
		t.Errorf("%s: Public is %x, not %x", what, got, want)
	}
}

// checkSign: a key tells just that of a mark, and is known by it again.
func checkSign(t *testing.T, what, seed string, key int, l [][]string, mark string) {
	t.Helper()
	got, err := once.Sign(seed, key, mark)
	check(t, what, err, api.OK)
	if want := signed(l, mark); !slices.Equal(got, want) {
		t.Errorf("%s: Sign is %x, not %x", what, got, want)
	}
	checkFrom(t, what, mark, got, publicOf(l))
}

// checkFrom: a list leads just there.
func checkFrom(t *testing.T, what, mark string, sig []string, want string) {
	t.Helper()
	got, err := once.From(mark, sig)
	check(t, what, err, api.OK)
	if got != want {
		t.Errorf("%s: From is %x, not %x", what, got, want)
	}
}

// checkNotFrom: a list leads elsewhere.
func checkNotFrom(t *testing.T, what, mark string, sig []string, public string) {
	t.Helper()
	got, err := once.From(mark, sig)
	check(t, what, err, api.OK)
	if got == public {
		t.Errorf("%s: From is the key's", what)
	}
}

// checkNoFrom: it may not be.
func checkNoFrom(t *testing.T, what, mark string, sig []string) {
	t.Helper()
	got, err := once.From(mark, sig)
	check(t, what, err, api.ErrArg)
	if got != "" {
		t.Errorf("%s: From tells %x beside an error", what, got)
	}
}

// TestBounds: 6.1: there are 35 chains of 15 steps.
func TestBounds(t *testing.T) {
	sig, err := once.Sign(drawn(1), 0, drawn(2))
	check(t, "Sign", err, api.OK)
	if len(sig) != 35 || api.Chains != 35 || api.Steps != 15 {
		t.Errorf("%d chains", len(sig))
	}
}

// TestPublic: 6.1: of each seed and each number, whether it is below 0 or above 7 or not, all chains' ends, the first chain's first.
func TestPublic(t *testing.T) {
	for _, seed := range marks() {
		for _, key := range keys() {
			checkPublic(t, fmt.Sprintf("%x, key %d", seed, key), seed, key, publicOf(ladders(seed, key)))
		}
	}
}

// TestSign: 6.1: each key tells of each mark what its chains have at the mark's digits; what it told leads to it.
func TestSign(t *testing.T) {
	for _, seed := range marks() {
		for _, key := range keys() {
			l := ladders(seed, key)
			for _, mark := range marks() {
				checkSign(t, fmt.Sprintf("%x, key %d, of %x", seed, key, mark), seed, key, l, mark)
			}
		}
	}
}

// TestSignEachDigit: 6.1: each byte there is, in each place of a mark.
func TestSignEachDigit(t *testing.T) {
	seed, key, rest := drawn(20), 3, drawn(21)
	l := ladders(seed, key)
	for at := range api.MarkSize {
		for b := range 256 {
			mark := rest[:at] + string([]byte{byte(b)}) + rest[at+1:]
			checkSign(t, fmt.Sprintf("%x", mark), seed, key, l, mark)
		}
	}
}

// TestSignEachLack: 6.1: the last three tell each number that 32 digits may lack, the greatest four bits first.
func TestSignEachLack(t *testing.T) {
	seed, key := drawn(30), 0
	l := ladders(seed, key)
	for lack := range 32*15 + 1 {
		digits, rest := []byte{}, lack
		for range 16 {
			high := min(rest, 15)
			low := min(rest-high, 15)
			rest -= high + low
			digits = append(digits, byte(15-high)<<4|byte(15-low))
		}
		what, mark := fmt.Sprint("lacking ", lack), string(digits)
		checkSign(t, what, seed, key, l, mark)
		sig, _ := once.Sign(seed, key, mark)
		last := []string{l[32][lack>>8], l[33][lack>>4&15], l[34][lack&15]}
		if !slices.Equal(sig[32:], last) {
			t.Errorf("%s: the last three are %x, not %x", what, sig[32:], last)
		}
	}
}

// TestWrittenOut: 6.1: the digits of some marks, written out by hand.
func TestWrittenOut(t *testing.T) {
	seed, key := drawn(35), 5
	l := ladders(seed, key)
	for _, c := range []struct {
		mark   string
		digits []int
	}{
		{zeros(), append(slices.Repeat([]int{0}, 32), 1, 14, 0)},
		{ones(), append(slices.Repeat([]int{15}, 32), 0, 0, 0)},
		{strings.Repeat("\x1f", 16), append(slices.Repeat([]int{1, 15}, 16), 0, 14, 0)},
		{strings.Repeat("\xf1", 16), append(slices.Repeat([]int{15, 1}, 16), 0, 14, 0)},
		{strings.Repeat("\x01\x23\x45\x67\x89\xab\xcd\xef", 2), []int{
			0, 1, 2, 3, 4, 5, 6, 7, 8, 9, 10, 11, 12, 13, 14, 15, 0, 1, 2, 3, 4, 5, 6, 7, 8, 9, 10, 11, 12, 13, 14, 15, 0, 15, 0}},
	} {
		sig, err := once.Sign(seed, key, c.mark)
		check(t, fmt.Sprintf("%x", c.mark), err, api.OK)
		for i, digit := range c.digits {
			if at := slices.Index(l[i], sig[i]); at != digit {
				t.Errorf("%x: chain %d is behind %d steps, not %d", c.mark, i, at, digit)
			}
		}
	}
}

// TestFrom: 6.1: any 35 marks lead somewhere, from each digit's step on.
func TestFrom(t *testing.T) {
	for _, mark := range marks() {
		for n := range 20 {
			var sig []string
			for c := range 35 {
				sig = append(sig, drawn(1000+35*n+c))
			}
			checkFrom(t, fmt.Sprintf("%x, list %d", mark, n), mark, sig, led(mark, sig))
		}
		for _, x := range marks() {
			sig := slices.Repeat([]string{x}, 35)
			checkFrom(t, fmt.Sprintf("%x, of %x alone", mark, x), mark, sig, led(mark, sig))
		}
	}
}

// TestNotMarks: 6.1: a seed or a mark of another size than 16 bytes is ErrArg, whatever the rest is.
func TestNotMarks(t *testing.T) {
	sig, _ := once.Sign(drawn(1), 0, drawn(2))
	for _, bad := range notMarks() {
		for _, key := range keys() {
			what := fmt.Sprintf("%q, key %d", bad, key)
			public, err := once.Public(bad, key)
			check(t, what, err, api.ErrArg)
			if public != "" {
				t.Errorf("%s: Public tells %x beside an error", what, public)
			}
			for _, l := range [][2]string{{bad, drawn(1)}, {drawn(1), bad}, {bad, bad}} {
				told, err := once.Sign(l[0], key, l[1])
				check(t, fmt.Sprintf("%s: Sign of %q and %q", what, l[0], l[1]), err, api.ErrArg)
				if len(told) != 0 {
					t.Errorf("%s: Sign tells %x beside an error", what, told)
				}
			}
		}
		checkNoFrom(t, fmt.Sprintf("%q", bad), bad, sig)
		checkNoFrom(t, fmt.Sprintf("%q, no list", bad), bad, nil)
	}
}

// TestNotLists: 6.1: more or fewer than 35 marks, or one of another size in any place, lead nowhere.
func TestNotLists(t *testing.T) {
	for _, mark := range marks() {
		sig, err := once.Sign(drawn(40), 1, mark)
		check(t, fmt.Sprintf("%x", mark), err, api.OK)
		for n := range 72 {
			if n != 35 {
				checkNoFrom(t, fmt.Sprint(n, " marks"), mark, append(slices.Clone(sig), append(sig, sig...)...)[:n])
			}
		}
		checkNoFrom(t, "nil", mark, nil)
		for at := range sig {
			for _, bad := range notMarks() {
				checkNoFrom(t, fmt.Sprintf("number %d is %q", at, bad), mark, with(sig, at, bad))
			}
			long := with(sig, at, sig[at]+"\x00")
			checkNoFrom(t, fmt.Sprintf("number %d is longer", at), mark, long)
			if at > 0 {
				checkNoFrom(t, fmt.Sprintf("a byte of number %d is the next one's", at-1), mark, with(with(sig, at-1, sig[at-1][:15]), at, sig[at-1][15:]+sig[at]))
			}
		}
	}
}

// TestEachKeyIsAnother: 6.1: another seed or number is another key, and has another one's chains nowhere.
func TestEachKeyIsAnother(t *testing.T) {
	seen := map[string]string{}
	look := func(seed string, key int) {
		what := fmt.Sprintf("%x, key %d", seed, key)
		public, err := once.Public(seed, key)
		check(t, what, err, api.OK)
		told, err := once.Sign(seed, key, zeros())
		check(t, what, err, api.OK)
		for _, mark := range append(told, public) {
			if was, ok := seen[mark]; ok {
				t.Errorf("%s and %s have one mark", was, what)
			}
			seen[mark] = what
		}
	}
	for key := -20; key <= 20; key++ {
		look(drawn(50), key)
	}
	for k := range 64 {
		look(drawn(51), int(uint64(1)<<k))
	}
	for k := range api.Depth {
		look(turned(drawn(52), k), 0)
	}
}

// TestWhoSignedIsKnown: 6.1: what was told of a mark leads to no key from another mark, and not when any of it is another one.
func TestWhoSignedIsKnown(t *testing.T) {
	seed, key := drawn(60), 4
	public, err := once.Public(seed, key)
	check(t, "Public", err, api.OK)
	for _, mark := range marks() {
		sig, err := once.Sign(seed, key, mark)
		check(t, fmt.Sprintf("%x", mark), err, api.OK)
		for k := range api.Depth {
			checkNotFrom(t, fmt.Sprintf("of %x with another bit %d", mark, k), turned(mark, k), sig, public)
		}
		for at := range sig {
			what := fmt.Sprintf("%x, number %d", mark, at)
			for _, k := range []int{0, 60, 127} {
				checkNotFrom(t, fmt.Sprintf("%s with another bit %d", what, k), mark, with(sig, at, turned(sig[at], k)), public)
			}
			checkNotFrom(t, what+" of none", mark, with(sig, at, zeros()), public)
			to := (at + 1) % len(sig)
			checkNotFrom(t, what+" and the next one changed round", mark, with(with(sig, at, sig[to]), to, sig[at]), public)
		}
	}
}

// onward is what was told of a mark gone on with, chain by chain, as far as another mark's digits ask; false of a chain that would have to go back.
func onward(sig []string, from, to string) ([]string, []bool) {
	var l []string
	var reached []bool
	a, b := digitsOf(from), digitsOf(to)
	for c, t := range sig {
		for k := a[c]; k < b[c]; k++ {
			t = otherMark('w', t, num(c), num(k))
		}
		l, reached = append(l, t), append(reached, a[c] <= b[c])
	}
	return l, reached
}

// TestNobodyGoesOn: 6.1: who was told of one mark goes on in some chains, but finds one in which to go back for each other mark; and that one is missed.
func TestNobodyGoesOn(t *testing.T) {
	seed, key := drawn(70), 6
	public, err := once.Public(seed, key)
	check(t, "Public", err, api.OK)
	all := append(marks(), turned(zeros(), 127), turned(ones(), 0), "\x0f\xff"+ones()[2:], "\x10\x00"+zeros()[2:])
	for _, from := range all {
		sig, err := once.Sign(seed, key, from)
		check(t, fmt.Sprintf("%x", from), err, api.OK)
		for _, to := range all {
			if to == from {
				continue
			}
			what := fmt.Sprintf("from %x to %x", from, to)
			l, reached := onward(sig, from, to)
			if !slices.Contains(reached, false) {
				t.Errorf("%s: no chain goes back", what)
			}
			checkNotFrom(t, what, to, l, public)
			truly, _ := once.Sign(seed, key, to)
			for c, ok := range reached {
				if (l[c] == truly[c]) != ok {
					t.Errorf("%s: chain %d is reached: %v, not %v", what, c, !ok, ok)
				}
			}
		}
	}
}

// TestLeavesLists: P4: neither a list nor what stands behind its length is written into; what comes out is fresh, and no answer changes with what is written later.
func TestLeavesLists(t *testing.T) {
	seed, key, mark := drawn(80), 2, drawn(81)
	sig, _ := once.Sign(seed, key, mark)
	public, _ := once.Public(seed, key)
	all := append(slices.Clone(sig), "behind", "it")
	was := slices.Clone(all)
	checkFrom(t, "the list's beginning", mark, all[:35], public)
	for n := range len(all) {
		once.From(mark, all[:n])
		once.From(drawn(n), all[:n])
	}
	if !slices.Equal(all, was) {
		t.Errorf("the list is now %x", all)
	}
	for c := range sig {
		sig[c] = "written"
	}
	again, _ := once.Sign(seed, key, mark)
	if !slices.Equal(again, was[:35]) {
		t.Error("what was told has changed with what came out before")
	}
	checkFrom(t, "after another list was written into", mark, again, public)
}

// TestAgain: P4: what a call answers hangs on its arguments alone, not on the calls before.
func TestAgain(t *testing.T) {
	ask := func() string {
		public, err := once.Public(drawn(90), 1)
		sig, wrong := once.Sign(drawn(90), 1, drawn(91))
		from, none := once.From(drawn(91), sig)
		return fmt.Sprintf("%q", []any{public, api.Tell(err), sig, api.Tell(wrong), from, api.Tell(none)})
	}
	first := ask()
	for n := range 60 {
		sig, _ := once.Sign(drawn(n), n, drawn(n+1))
		once.From(drawn(n+2), sig)
		once.From("", sig)
		once.Public(drawn(n), -n)
		once.Public("", n)
		once.Sign("", n, drawn(n))
		if again := ask(); again != first {
			t.Fatalf("at first %s, then %s", first, again)
		}
	}
}

func BenchmarkPublic(b *testing.B) {
	for b.Loop() {
		once.Public(drawn(1), 0)
	}
}
