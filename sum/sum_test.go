package sum_test

import (
	"crypto/sha256"
	"encoding/binary"
	"encoding/hex"
	"math"
	"slices"
	"strconv"
	"strings"
	"testing"

	"rollkeeper/api"
	"rollkeeper/sum"
)

// drawn is a text of so many bytes of every kind, the same each time.
func drawn(size int) string {
	b := make([]byte, size)
	x := uint32(size)
	for i := range b {
		x = x*1664525 + 1013904223
		b[i] = byte(x >> 24)
	}
	return string(b)
}

// otherMark is Mark by the library's sum, its text laid out part by part.
func otherMark(kind byte, parts ...string) string {
	text := []byte{kind}
	for _, p := range parts {
		text = binary.BigEndian.AppendUint64(text, uint64(len(p)))
		text = append(text, p...)
	}
	h := sha256.Sum256(text)
	return string(h[:16])
}

// TestSumPublished: 1.1: sums that FIPS 180-4's examples and NIST's list tell.
func TestSumPublished(t *testing.T) {
	for _, c := range []struct{ name, text, want string }{
		{"empty", "", "e3b0c44298fc1c149afbf4c8996fb92427ae41e4649b934ca495991b7852b855"},
		{"one block", "abc", "ba7816bf8f01cfea414140de5dae2223b00361a396177a9cb410ff61f20015ad"},
		{"two blocks", "abcdbcdecdefdefgefghfghighijhijkijkljklmklmnlmnomnopnopq", "248d6a61d20638b8e5c026930c3e6039a33ce45964ff2167f6ecedd419db06c1"},
		{"three blocks", "abcdefghbcdefghicdefghijdefghijkefghijklfghijklmghijklmnhijklmnoijklmnopjklmnopqklmnopqrlmnopqrsmnopqrstnopqrstu", "cf5b16a778af8380036ce59e7b0492370b249b11e8f07a51afac45037afee9d1"},
		{"a million", strings.Repeat("a", 1_000_000), "cdc76e5c9914fb9281a1c7e284d73e67f1809a48a497200e046d39ccc7112cd0"},
		{"one byte", "\xbd", "68325720aabd7c82f30f554b313d0570c95accbb7dc4b5aae11204c08ffe732b"},
		{"four noughts", "\x00\x00\x00\x00", "df3f619804a92fdb4057192dc43dd748ea778adc52bc498ce80524c014b81119"},
	} {
		if got := hex.EncodeToString([]byte(sum.Sum(c.text))); got != c.want {
			t.Errorf("%s: Sum is %s, not %s", c.name, got, c.want)
		}
	}
}

// TestSumEachLength: 1.1: the padding is right wherever a text ends in its blocks.
func TestSumEachLength(t *testing.T) {
	for n := range 400 {
		for _, s := range []string{drawn(n), strings.Repeat("\x00", n), strings.Repeat("\xff", n)} {
			if want := sha256.Sum256([]byte(s)); sum.Sum(s) != string(want[:]) {
				t.Errorf("Sum of %d bytes %.8x is %x, not %x", n, s, sum.Sum(s), want)
			}
		}
	}
}

// TestSumLong: 1.1: a length of more bits than fit in 32 stands whole behind the padding.
func TestSumLong(t *testing.T) {
	if testing.Short() {
		t.Skip("half a gibibyte takes some seconds")
	}
	s := strings.Repeat("0123456789abcdef", 1<<25+1)
	if want := sha256.Sum256([]byte(s)); sum.Sum(s) != string(want[:]) {
		t.Errorf("Sum of %d bytes is %x, not %x", len(s), sum.Sum(s), want)
	}
}

// TestHex: 1.1: two small digits for each byte there is, whatever it is.
func TestHex(t *testing.T) {
	if got := sum.Hex(""); got != "" {
		t.Errorf("Hex of nothing is %q", got)
	}
	for b := range 256 {
		s := string([]byte{byte(b)})
		if got, want := sum.Hex(s), hex.EncodeToString([]byte(s)); got != want {
			t.Errorf("Hex of byte %d is %q, not %q", b, got, want)
		}
	}
	if got := sum.Hex("\x00\x0fn\xc3\x28\xff"); got != "000f6ec328ff" {
		t.Errorf("Hex is %q, not 000f6ec328ff", got)
	}
	if s := drawn(1000); sum.Hex(s) != hex.EncodeToString([]byte(s)) {
		t.Error("Hex of 1000 bytes is another one")
	}
}

// TestNum: 1.1: eight bytes, the greatest first, in two's complement.
func TestNum(t *testing.T) {
	for _, c := range []struct {
		n    int
		want string
	}{
		{258, "\x00\x00\x00\x00\x00\x00\x01\x02"},
		{0, "\x00\x00\x00\x00\x00\x00\x00\x00"},
		{1, "\x00\x00\x00\x00\x00\x00\x00\x01"},
		{255, "\x00\x00\x00\x00\x00\x00\x00\xff"},
		{256, "\x00\x00\x00\x00\x00\x00\x01\x00"},
		{0x0102030405060708, "\x01\x02\x03\x04\x05\x06\x07\x08"},
		{-1, "\xff\xff\xff\xff\xff\xff\xff\xff"},
		{-2, "\xff\xff\xff\xff\xff\xff\xff\xfe"},
		{-256, "\xff\xff\xff\xff\xff\xff\xff\x00"},
		{math.MaxInt64, "\x7f\xff\xff\xff\xff\xff\xff\xff"},
		{math.MinInt64, "\x80\x00\x00\x00\x00\x00\x00\x00"},
	} {
		if got := sum.Num(c.n); got != c.want {
			t.Errorf("Num of %d is %x, not %x", c.n, got, c.want)
		}
	}
	for bit := range 64 {
		want := string(binary.BigEndian.AppendUint64(nil, 1<<bit))
		if got := sum.Num(int(uint64(1) << bit)); got != want {
			t.Errorf("Num of bit %d is %x, not %x", bit, got, want)
		}
	}
}

// TestMark: 1.1: the kind and each part count, and of each part how long it is.
func TestMark(t *testing.T) {
	lists := [][]string{
		nil, {""}, {"", ""}, {"a"}, {"a", "b"}, {"ab"}, {"ab", ""}, {"", "ab"}, {"b", "a"},
		{"\x00"}, {"\xff\xfe", "\xc3\x28"}, {drawn(16), drawn(17)}, {drawn(300)}, slices.Repeat([]string{"part"}, 100),
	}
	for n := range 140 {
		lists = append(lists, []string{drawn(n)})
	}
	for _, l := range lists {
		for kind := range 256 {
			got, want := sum.Mark(byte(kind), l...), otherMark(byte(kind), l...)
			if got != want {
				t.Errorf("Mark of kind %d and %d parts is %x, not %x", kind, len(l), got, want)
			}
		}
	}
	if len(sum.Mark('x')) != api.MarkSize {
		t.Errorf("a mark has %d bytes", len(sum.Mark('x')))
	}
}

// TestMarkTellsApart: 1.1: texts that are the same one behind the other, cut elsewhere, have other marks, and so has each kind.
func TestMarkTellsApart(t *testing.T) {
	seen := map[string]string{}
	note := func(what, mark string) {
		if was, ok := seen[mark]; ok {
			t.Errorf("%s and %s have one mark", was, what)
		}
		seen[mark] = what
	}
	for at := range 9 {
		note("cut at "+strconv.Itoa(at), sum.Mark('x', "\x00abcdef\xff"[:at], "\x00abcdef\xff"[at:]))
	}
	note("not cut", sum.Mark('x', "\x00abcdef\xff"))
	note("no part", sum.Mark('x'))
	note("an empty part", sum.Mark('x', ""))
	note("two empty parts", sum.Mark('x', "", ""))
	note("a part that looks like an empty one", sum.Mark('x', sum.Num(0)))
	note("no part of another kind", sum.Mark('y'))
}

// TestMarkLeavesParts: P4: neither the parts nor what stands behind the list's length is written into, and they are not kept.
func TestMarkLeavesParts(t *testing.T) {
	all := []string{"a", "b", "behind", "it"}
	first := sum.Mark('x', all[:2]...)
	if !slices.Equal(all, []string{"a", "b", "behind", "it"}) {
		t.Errorf("the parts are now %q", all)
	}
	all[0], all[1] = "other", "ones"
	if first != otherMark('x', "a", "b") || sum.Mark('x', "a", "b") != first {
		t.Error("the mark has changed with a list that it was made of")
	}
}

// TestAgain: P4: what a call answers hangs on its arguments alone, not on the calls before.
func TestAgain(t *testing.T) {
	first := [4]string{sum.Sum("abc"), sum.Hex("abc"), sum.Num(7), sum.Mark('x', "abc")}
	for n := range 200 {
		sum.Sum(drawn(n))
		sum.Hex(drawn(n))
		sum.Num(-n)
		sum.Mark(byte(n), drawn(n))
	}
	if again := [4]string{sum.Sum("abc"), sum.Hex("abc"), sum.Num(7), sum.Mark('x', "abc")}; again != first {
		t.Errorf("at first %x, then %x", first, again)
	}
}

func BenchmarkMark(b *testing.B) {
	part := drawn(api.MarkSize)
	for b.Loop() {
		sum.Mark('n', part, part)
	}
}
