package index_test

import (
	"crypto/sha256"
	"encoding/binary"
	"errors"
	"math"
	"math/bits"
	"strings"
	"testing"

	"rollkeeper/api"
	"rollkeeper/index"
)

// otherIndex is a name's index by the library's sum: of kind i, and of one part.
func otherIndex(name string) string {
	text := binary.BigEndian.AppendUint64([]byte{'i'}, uint64(len(name)))
	h := sha256.Sum256(append(text, name...))
	return string(h[:16])
}

// drawn is a mark that looks drawn, the same each time.
func drawn(seed int) string {
	b := make([]byte, api.MarkSize)
	x := uint32(seed)
	for i := range b {
		x = x*1664525 + 1013904223
		b[i] = byte(x >> 24)
	}
	return string(b)
}

// turned is a mark with another bit k.
func turned(mark string, k int) string {
	b := []byte(mark)
	b[k/8] ^= 0x80 >> (k % 8)
	return string(b)
}

// marks are some of which each bit is 0 in one, and 1 in another.
func marks() []string {
	l := []string{strings.Repeat("\x00", 16), strings.Repeat("\xff", 16), strings.Repeat("a", 16), "\x80" + strings.Repeat("\x00", 15), strings.Repeat("\x00", 15) + "\x01"}
	for n := range 40 {
		l = append(l, drawn(n))
	}
	return l
}

// notMarks are texts of other sizes than a mark's.
func notMarks() []string {
	return []string{"", "x", strings.Repeat("\x00", 15), strings.Repeat("\x00", 17), strings.Repeat("a", 32), strings.Repeat("ä", 16)}
}

// check: an error is just the one that is wanted, and tells no place.
func check(t *testing.T, what string, err error, want api.Errno) {
	t.Helper()
	if got := api.Tell(err); got != want {
		t.Errorf("%s: error %d, not %d", what, got, want)
	}
	var at *api.At
	if errors.As(err, &at) {
		t.Errorf("%s: the error tells place %d", what, at.Place)
	}
}

// checkName: Name and Of are of one mind, and Of's answer is the name's own, or none.
func checkName(t *testing.T, s string, want bool) {
	t.Helper()
	if got := index.Name(s); got != want {
		t.Errorf("Name of %q is %v", s, got)
	}
	ix, err := index.Of(s)
	if want {
		check(t, "Of", err, api.OK)
		if ix != otherIndex(s) {
			t.Errorf("Of %q is %x, not %x", s, ix, otherIndex(s))
		}
		return
	}
	check(t, "Of", err, api.ErrName)
	if ix != "" {
		t.Errorf("Of %q is %x beside an error", s, ix)
	}
}

// TestName: 2.1: letters and digits, a letter first.
func TestName(t *testing.T) {
	for _, s := range []string{"a", "z", "anna", "bob7", "a0", "z9", "x86", "abcdefghijkl", "a23456789012", "zzzzzzzzzzzz"} {
		checkName(t, s, true)
	}
	for _, s := range []string{
		"", "1", "1a", "0", "A", "Anna", "aNna", "a_b", "a-b", "a b", " a", "a ", "a\n", "a\x00", "\x00", "abcdefghijklm", "abcdefghijkl\x00",
		"ä", "aä", "\xff", "a\xff", "a\xc3", "é1", "ａ", "a１", "٣", "a٣", "k\u212a", strings.Repeat("a", 1<<20),
	} {
		checkName(t, s, false)
	}
}

// TestNameEachByte: 2.1: of all bytes just a to z, and but in the first place 0 to 9, may stand, in whichever place.
func TestNameEachByte(t *testing.T) {
	const letters, digits = "abcdefghijklmnopqrstuvwxyz", "0123456789"
	for c := range 256 {
		s := string([]byte{byte(c)})
		first, behind := strings.Contains(letters, s), strings.Contains(letters+digits, s)
		checkName(t, s, first)
		checkName(t, s+"b", first)
		for at := 1; at < api.MaxName; at++ {
			checkName(t, strings.Repeat("b", at)+s, behind)
			checkName(t, strings.Repeat("b", at)+s+strings.Repeat("b", api.MaxName-1-at), behind)
		}
	}
}

// TestNameEachLength: 2.1: from 1 to MaxName bytes.
func TestNameEachLength(t *testing.T) {
	for n := range 3 * api.MaxName {
		checkName(t, strings.Repeat("q", n), n >= 1 && n <= api.MaxName)
	}
	checkName(t, strings.Repeat("q", 256+1), false)
}

// TestOfTellsApart: 2.1: each name has an index of its own, the same each time.
func TestOfTellsApart(t *testing.T) {
	seen := map[string]string{}
	for _, s := range []string{"a", "b", "aa", "ab", "ba", "a0", "a00", "anna", "abcdefghijk", "abcdefghijkl"} {
		ix, err := index.Of(s)
		check(t, "Of", err, api.OK)
		if len(ix) != api.MarkSize {
			t.Errorf("Of %q has %d bytes", s, len(ix))
		}
		if was, ok := seen[ix]; ok {
			t.Errorf("%q and %q have one index", was, s)
		}
		seen[ix] = s
		if again, _ := index.Of(s); again != ix {
			t.Errorf("Of %q is %x, then %x", s, ix, again)
		}
	}
}

// TestBit: 2.1: bit 0 is the greatest of the first byte, bit 127 the least of the last one.
func TestBit(t *testing.T) {
	zero, full := strings.Repeat("\x00", 16), strings.Repeat("\xff", 16)
	for k := range api.Depth {
		for at := range api.Depth {
			one := 0
			if at == k {
				one = 1
			}
			checkBit(t, turned(zero, k), at, one)
			checkBit(t, turned(full, k), at, 1-one)
		}
	}
	const mixed = "\xa5\x01\x80\x7f\x00\x00\x00\x00\x00\x00\x00\x00\x00\x00\x00\x02"
	want := "10100101" + "00000001" + "10000000" + "01111111" + strings.Repeat("0", 88) + "00000010"
	for k := range api.Depth {
		checkBit(t, mixed, k, int(want[k]-'0'))
	}
}

func checkBit(t *testing.T, ix string, k, want int) {
	t.Helper()
	got, err := index.Bit(ix, k)
	check(t, "Bit", err, api.OK)
	if got != want {
		t.Errorf("bit %d of %x is %d, not %d", k, ix, got, want)
	}
}

// TestBitWrong: 2.1: ErrRange beyond 0 to 127; of what is no MARK ErrArg, told ahead of it.
func TestBitWrong(t *testing.T) {
	full := strings.Repeat("\xff", 16)
	for _, k := range []int{-1, -2, -8, -128, 128, 129, 135, 136, 255, 256, 1 << 32, math.MinInt, math.MinInt + 7, math.MaxInt} {
		got, err := index.Bit(full, k)
		check(t, "Bit", err, api.ErrRange)
		if got != 0 {
			t.Errorf("bit %d is %d beside an error", k, got)
		}
	}
	for _, ix := range notMarks() {
		for _, k := range []int{0, 1, 7, 8, 119, 120, 127, -1, 128, math.MinInt, math.MaxInt} {
			got, err := index.Bit(ix, k)
			check(t, "Bit", err, api.ErrArg)
			if got != 0 {
				t.Errorf("bit %d of %x is %d beside an error", k, ix, got)
			}
		}
	}
}

// otherCommon counts the noughts with which the difference of two marks begins.
func otherCommon(a, b string) int {
	high := binary.BigEndian.Uint64([]byte(a)) ^ binary.BigEndian.Uint64([]byte(b))
	low := binary.BigEndian.Uint64([]byte(a[8:])) ^ binary.BigEndian.Uint64([]byte(b[8:]))
	if high != 0 {
		return bits.LeadingZeros64(high)
	}
	return 64 + bits.LeadingZeros64(low)
}

func checkCommon(t *testing.T, a, b string, want int) {
	t.Helper()
	got, err := index.Common(a, b)
	check(t, "Common", err, api.OK)
	if got != want {
		t.Errorf("%x and %x have %d bits in common, not %d", a, b, got, want)
	}
}

// TestCommon: 2.1: bits are counted from 0 on as far as they are alike; those behind the first other one count no more.
func TestCommon(t *testing.T) {
	l := marks()
	for _, a := range l {
		checkCommon(t, a, a, 128)
		for k := range api.Depth {
			b := turned(a, k)
			checkCommon(t, a, b, k)
			checkCommon(t, b, a, k)
			for _, far := range []int{k + 1, k + 8, 127} {
				if far > k && far < api.Depth {
					checkCommon(t, a, turned(b, far), k)
				}
			}
		}
		for _, b := range l {
			checkCommon(t, a, b, otherCommon(a, b))
		}
	}
}

// TestCommonIsOfBits: 2.1, as far as they are alike: each Bit ahead is the same of both, and the next one is not.
func TestCommonIsOfBits(t *testing.T) {
	l := marks()
	for _, a := range l {
		for _, b := range l {
			n, _ := index.Common(a, b)
			for k := range min(n+1, api.Depth) {
				x, _ := index.Bit(a, k)
				y, _ := index.Bit(b, k)
				if (x == y) != (k < n) {
					t.Errorf("%x and %x have %d bits in common, but bit %d is %d and %d", a, b, n, k, x, y)
				}
			}
		}
	}
}

// TestCommonWrong: 2.1: ErrArg, whichever of both is no MARK, even if both are the same.
func TestCommonWrong(t *testing.T) {
	for _, bad := range notMarks() {
		others := append(marks(), notMarks()...)
		for _, other := range others {
			for _, pair := range [][2]string{{bad, other}, {other, bad}} {
				got, err := index.Common(pair[0], pair[1])
				check(t, "Common", err, api.ErrArg)
				if got != 0 {
					t.Errorf("%x and %x have %d bits in common beside an error", pair[0], pair[1], got)
				}
			}
		}
	}
}

// TestAgain: P4: what a call answers hangs on its arguments alone, not on the calls before.
func TestAgain(t *testing.T) {
	ask := func() (ix string, bit, common int) {
		ix, _ = index.Of("anna")
		bit, _ = index.Bit(strings.Repeat("a", 16), 1)
		common, _ = index.Common(strings.Repeat("a", 16), strings.Repeat("a", 15)+"b")
		return ix, bit, common
	}
	ix, bit, common := ask()
	for n := range 200 {
		index.Name(drawn(n))
		index.Of("b")
		index.Bit(drawn(n), n)
		index.Common(drawn(n), drawn(-n))
		if ix2, bit2, common2 := ask(); ix2 != ix || bit2 != bit || common2 != common {
			t.Fatalf("at first %x %d %d, then %x %d %d", ix, bit, common, ix2, bit2, common2)
		}
	}
}
