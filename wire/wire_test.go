package wire_test

import (
	"bytes"
	"errors"
	"fmt"
	"math"
	"slices"
	"strings"
	"testing"

	"rollkeeper/api"
	"rollkeeper/client"
	"rollkeeper/dir"
	"rollkeeper/wire"
)

// headSize is how many bytes lie ahead of the proof: two, and 40 marks.
const headSize = 642

// drawn is a mark that looks drawn, the same each time.
func drawn(seed int) string {
	b := make([]byte, api.MarkSize)
	x := uint32(seed)*2654435761 + 1
	for i := range b {
		x = x*1664525 + 1013904223
		b[i] = byte(x >> 24)
	}
	return string(b)
}

// marks are n that look drawn.
func marks(from, n int) []string {
	var l []string
	for i := range n {
		l = append(l, drawn(from+i))
	}
	return l
}

// notMarks are texts of other sizes than a mark's, none of them empty.
func notMarks() []string {
	return []string{"\x00", strings.Repeat("\x00", 15), strings.Repeat("\xff", 17), strings.Repeat("a", 32), strings.Repeat("ä", 16), strings.Repeat("a", 272)}
}

// with is a list with another text in a place.
func with(l []string, at int, text string) []string {
	l = slices.Clone(l)
	l[at] = text
	return l
}

// check: an error is just the one that is wanted, and tells no place.
func check(t *testing.T, what string, err error, want api.Errno) {
	t.Helper()
	if got := api.Tell(err); got != want {
		t.Errorf("%s: error %d, not %d", what, got, want)
	}
	var at *api.At
	if errors.As(err, &at) {
		t.Errorf("%s: the error tells place %d", what, at.Place)
	}
}

// sample is an answer of drawn marks, with a way so long, and with a value and a leaf, or without. No directory ever told it.
func sample(epoch, key, way int, leaf bool, value string) api.Answer {
	a := api.Answer{
		Signed: api.Signed{
			Head: api.Head{Epoch: epoch, Root: drawn(1), Prev: drawn(2)},
			Seal: api.Seal{Key: key, Sig: marks(10, 35), Path: marks(50, 3)},
		},
		Proof: api.Proof{Path: marks(100, way)},
	}
	if leaf {
		a.Proof.Leaf = api.Item{Index: drawn(3), Commit: drawn(4)}
	}
	if value != "" {
		a.Opening, a.Value = drawn(5), value
	}
	return a
}

// samples are answers of each kind: ways up to the longest, leaves and values each with and without the other one.
func samples() []api.Answer {
	var l []api.Answer
	for _, way := range []int{0, 1, 2, 7, 127, 128} {
		for _, leaf := range []bool{false, true} {
			for _, value := range []string{"", "v", "\x00", "a value", strings.Repeat("\xff", 23), "abcdefghijklmnopqrstuvwx"} {
				l = append(l, sample(1+len(l)%8, 7-len(l)/3%8, way, leaf, value))
			}
		}
	}
	return l
}

// laid are an answer's bytes, part by part, whether it may be or not.
func laid(a api.Answer) string {
	var b bytes.Buffer
	b.WriteByte(byte(a.Signed.Head.Epoch))
	b.WriteByte(byte(a.Signed.Seal.Key))
	b.WriteString(a.Signed.Head.Root)
	b.WriteString(a.Signed.Head.Prev)
	for _, m := range a.Signed.Seal.Sig {
		b.WriteString(m)
	}
	for _, m := range a.Signed.Seal.Path {
		b.WriteString(m)
	}
	b.WriteByte(byte(len(a.Proof.Path)))
	for _, m := range a.Proof.Path {
		b.WriteString(m)
	}
	if a.Proof.Leaf.Index+a.Proof.Leaf.Commit == "" {
		b.WriteByte(0)
	} else {
		b.WriteByte(1)
		b.WriteString(a.Proof.Leaf.Index)
		b.WriteString(a.Proof.Leaf.Commit)
	}
	b.WriteByte(byte(len(a.Value)))
	b.WriteString(a.Opening)
	b.WriteString(a.Value)
	return b.String()
}

// cut are n marks of a text from a place on.
func cut(s string, at, n int) []string {
	var l []string
	for i := range n {
		l = append(l, s[at+16*i:at+16*i+16])
	}
	return l
}

// found is the answer in a text, by where its parts must lie; false, if it is none.
func found(s string) (a api.Answer, ok bool) {
	if len(s) <= headSize || s[0] < 1 || s[0] > 8 || s[1] > 7 || s[headSize] > 128 {
		return a, false
	}
	way := int(s[headSize])
	flag := headSize + 1 + 16*way
	if flag >= len(s) || s[flag] > 1 {
		return a, false
	}
	size := flag + 1 + 32*int(s[flag])
	if size >= len(s) || s[size] > 24 {
		return a, false
	}
	end := size + 1
	if s[size] > 0 {
		end += 16 + int(s[size])
	}
	if end != len(s) {
		return a, false
	}
	a.Signed.Head = api.Head{Epoch: int(s[0]), Root: s[2:18], Prev: s[18:34]}
	a.Signed.Seal = api.Seal{Key: int(s[1]), Sig: cut(s, 34, 35), Path: cut(s, 594, 3)}
	a.Proof.Path = cut(s, headSize+1, way)
	if s[flag] == 1 {
		a.Proof.Leaf = api.Item{Index: s[flag+1 : flag+17], Commit: s[flag+17 : flag+33]}
	}
	if s[size] > 0 {
		a.Opening, a.Value = s[size+1:size+17], s[size+17:]
	}
	return a, true
}

// same says whether answers are; an empty list may be nil.
func same(a, b api.Answer) bool {
	s, r := a.Signed.Seal, b.Signed.Seal
	return a.Signed.Head == b.Signed.Head && s.Key == r.Key && slices.Equal(s.Sig, r.Sig) && slices.Equal(s.Path, r.Path) &&
		slices.Equal(a.Proof.Path, b.Proof.Path) && a.Proof.Leaf == b.Proof.Leaf && a.Opening == b.Opening && a.Value == b.Value
}

// checkWrite: an answer is written so, each time; what is read of it is the answer.
func checkWrite(t *testing.T, what string, a api.Answer, want string) {
	t.Helper()
	for range 2 {
		got, err := wire.Write(a)
		check(t, what, err, api.OK)
		if got != want {
			t.Errorf("%s: Write tells %x, not %x", what, got, want)
		}
	}
	for range 2 {
		got, err := wire.Parse(want)
		check(t, what, err, api.OK)
		if !same(got, a) {
			t.Errorf("%s: Parse tells %x, not %x", what, got, a)
		}
	}
}

// checkNotWritten: an answer may not be.
func checkNotWritten(t *testing.T, what string, a api.Answer) {
	t.Helper()
	got, err := wire.Write(a)
	check(t, what, err, api.ErrArg)
	if got != "" {
		t.Errorf("%s: Write tells %x beside an error", what, got)
	}
}

// checkForm: a text is of another form.
func checkForm(t *testing.T, what, s string) {
	t.Helper()
	got, err := wire.Parse(s)
	check(t, what, err, api.ErrForm)
	if !same(got, api.Answer{}) {
		t.Errorf("%s: Parse tells %x beside an error", what, got)
	}
}

// checkParse: of a text the answer is told that lies in it, which is written just so; or that there is none.
func checkParse(t *testing.T, what, s string) {
	t.Helper()
	if a, ok := found(s); ok {
		checkWrite(t, what, a, s)
	} else {
		checkForm(t, what, s)
	}
}

// TestByHand: 11.1: an answer's parts stand one behind the other, each number a byte.
func TestByHand(t *testing.T) {
	m := func(c string) string { return strings.Repeat(c, 16) }
	var sig []string
	for i := range 35 {
		sig = append(sig, m(string(rune('A'+i))))
	}
	a := api.Answer{
		Signed:  api.Signed{Head: api.Head{Epoch: 8, Root: m("r"), Prev: m("p")}, Seal: api.Seal{Key: 6, Sig: sig, Path: []string{m("x"), m("y"), m("z")}}},
		Proof:   api.Proof{Path: []string{m("1"), m("2")}, Leaf: api.Item{Index: m("i"), Commit: m("c")}},
		Opening: m("o"), Value: "key",
	}
	signed := "\x08\x06" + m("r") + m("p") + strings.Join(sig, "") + m("x") + m("y") + m("z")
	checkWrite(t, "all", a, signed+"\x02"+m("1")+m("2")+"\x01"+m("i")+m("c")+"\x03"+m("o")+"key")
	a.Proof.Leaf = api.Item{}
	checkWrite(t, "no leaf", a, signed+"\x02"+m("1")+m("2")+"\x00\x03"+m("o")+"key")
	a.Proof.Path = nil
	checkWrite(t, "no way", a, signed+"\x00\x00\x03"+m("o")+"key")
	a.Opening, a.Value = "", ""
	checkWrite(t, "nothing", a, signed+"\x00\x00\x00")
	a.Proof.Leaf = api.Item{Index: m("\x00"), Commit: m("\x00")}
	checkWrite(t, "a leaf of noughts", a, signed+"\x00\x01"+m("\x00")+m("\x00")+"\x00")
	a.Proof.Path = []string{}
	checkWrite(t, "an empty list", a, signed+"\x00\x01"+m("\x00")+m("\x00")+"\x00")
}

// TestSamples: 11.1: each kind of answer is written part by part, and read again; no two are written alike.
func TestSamples(t *testing.T) {
	seen := map[string]int{}
	for i, a := range samples() {
		s := laid(a)
		checkWrite(t, fmt.Sprint("sample ", i), a, s)
		if k, ok := seen[s]; ok {
			t.Errorf("samples %d and %d are written alike", k, i)
		}
		seen[s] = i
	}
}

// TestNumbers: 11.1: epochs from 1 to 8 and keys from 0 to 7 may be, each beside each; no others.
func TestNumbers(t *testing.T) {
	numbers := []int{math.MinInt, math.MinInt32, -256, -255, -8, 255, 256, 257, 263, 1<<32 + 1, math.MaxInt32, math.MaxInt}
	for n := -2; n < 12; n++ {
		numbers = append(numbers, n)
	}
	for _, epoch := range numbers {
		for _, key := range numbers {
			a, what := sample(epoch, key, 1, true, "v"), fmt.Sprintf("epoch %d, key %d", epoch, key)
			if 1 <= epoch && epoch <= 8 && 0 <= key && key <= 7 {
				checkWrite(t, what, a, laid(a))
			} else {
				checkNotWritten(t, what, a)
			}
		}
	}
}

// TestWays: 11.1: a proof's way may have any number of marks up to 128, and no more, also not as many as a byte could tell, or would tell again from 0 on.
func TestWays(t *testing.T) {
	for way := range 129 {
		a := sample(1, 0, way, way%2 == 0, "v")
		checkWrite(t, fmt.Sprint("a way of ", way), a, laid(a))
	}
	for _, way := range []int{129, 130, 255, 256, 257, 384, 1000} {
		a := sample(1, 0, way, way%2 == 0, "v")
		checkNotWritten(t, fmt.Sprint("a way of ", way), a)
		checkParse(t, fmt.Sprint("a way of ", way), laid(a))
	}
}

// TestValues: 11.1: values of 1 to 24 bytes, whatever they are, may be beside an opening; longer ones may not.
func TestValues(t *testing.T) {
	for n := 1; n < 300; n++ {
		a := sample(2, 1, n%3, n%2 == 0, strings.Repeat("v", n))
		if n <= 24 {
			checkWrite(t, fmt.Sprint("a value of ", n), a, laid(a))
		} else {
			checkNotWritten(t, fmt.Sprint("a value of ", n), a)
			checkParse(t, fmt.Sprint("a value of ", n), laid(a))
		}
	}
	for c := range 256 {
		b := string([]byte{byte(c)})
		for _, value := range []string{b, strings.Repeat(b, 24), "\x00" + b, b + "\x00"} {
			a := sample(2, 1, 1, false, value)
			checkWrite(t, fmt.Sprintf("value %q", value), a, laid(a))
		}
	}
}

// TestAnyMarks: 11.1: marks are any 16 bytes, in every place.
func TestAnyMarks(t *testing.T) {
	for c := range 256 {
		m := strings.Repeat(string([]byte{byte(c)}), 16)
		a := sample(3, 2, 3, true, "v")
		for i, part := range places(&a) {
			was := *part
			*part = m
			checkWrite(t, fmt.Sprintf("byte %d in place %d", c, i), a, laid(a))
			*part = was
		}
	}
}

// places are all texts of an answer that must be marks.
func places(a *api.Answer) []*string {
	l := []*string{&a.Signed.Head.Root, &a.Signed.Head.Prev, &a.Proof.Leaf.Index, &a.Proof.Leaf.Commit, &a.Opening}
	for _, list := range [][]string{a.Signed.Seal.Sig, a.Signed.Seal.Path, a.Proof.Path} {
		for i := range list {
			l = append(l, &list[i])
		}
	}
	return l
}

// TestNotMarks: 11.1: in each place in which a mark must be anything else may not; also not if the next one makes up for what it lacks.
func TestNotMarks(t *testing.T) {
	for _, way := range []int{1, 128} {
		a := sample(4, 3, way, true, "value")
		l := places(&a)
		for i, part := range l {
			was := *part
			for _, bad := range append(notMarks(), "") {
				*part = bad
				what := fmt.Sprintf("%d bytes in place %d of a way of %d", len(bad), i, way)
				checkNotWritten(t, what, a)
				checkParse(t, what, laid(a))
			}
			*part = was
			if i == 0 {
				continue
			}
			before := *l[i-1]
			*l[i-1], *part = before[:15], before[15:]+was
			checkNotWritten(t, fmt.Sprintf("a byte moved to place %d of a way of %d", i, way), a)
			*l[i-1], *part = before+was, ""
			checkNotWritten(t, fmt.Sprintf("all moved from place %d of a way of %d", i, way), a)
			*l[i-1], *part = before, was
		}
		checkWrite(t, "as it was", a, laid(a))
	}
}

// TestLists: 11.1: a seal has just 35 marks, and three on its way.
func TestLists(t *testing.T) {
	for _, value := range []string{"", "v"} {
		for n := range 72 {
			a := sample(5, 4, 2, true, value)
			a.Signed.Seal.Sig = marks(10, n)
			if n != 35 {
				checkNotWritten(t, fmt.Sprint("marks of a seal: ", n), a)
				checkParse(t, fmt.Sprint("marks of a seal: ", n), laid(a))
			}
			a = sample(5, 4, 2, true, value)
			a.Signed.Seal.Path = marks(50, n)
			if n != 3 {
				checkNotWritten(t, fmt.Sprint("marks of a seal's way: ", n), a)
				checkParse(t, fmt.Sprint("marks of a seal's way: ", n), laid(a))
			}
		}
		// All in all there are as many as there should be.
		a := sample(5, 4, 2, true, value)
		a.Signed.Seal.Sig, a.Signed.Seal.Path = marks(10, 34), marks(50, 4)
		checkNotWritten(t, "a mark moved from one to the other", a)
		a.Signed.Seal.Sig, a.Signed.Seal.Path = marks(10, 36), marks(50, 2)
		checkNotWritten(t, "a mark moved from the other to one", a)
	}
}

// TestLeaves: 11.1: a leaf is empty, or of two marks: not one alone.
func TestLeaves(t *testing.T) {
	for _, value := range []string{"", "v"} {
		for _, way := range []int{0, 2, 128} {
			a := sample(6, 5, way, false, value)
			for _, text := range append(notMarks(), drawn(3), drawn(3)+drawn(4)) {
				for i, x := range []api.Item{{Index: text}, {Commit: text}} {
					a.Proof.Leaf = x
					what := fmt.Sprintf("%d bytes alone in a leaf, %d", len(text), i)
					checkNotWritten(t, what, a)
					checkParse(t, what, laid(a))
				}
			}
			// Whose leaf it is, is not looked at.
			a.Proof.Leaf = api.Item{Index: drawn(900), Commit: drawn(900)}
			checkWrite(t, "anybody's leaf", a, laid(a))
		}
	}
}

// TestOpenings: 11.1: an opening and a value are both there, or both not.
func TestOpenings(t *testing.T) {
	for _, leaf := range []bool{false, true} {
		a := sample(7, 6, 2, leaf, "")
		checkWrite(t, "neither", a, laid(a))
		for _, text := range append(notMarks(), drawn(5)) {
			a.Opening, a.Value = text, ""
			what := fmt.Sprintf("an opening of %d bytes alone", len(text))
			checkNotWritten(t, what, a)
			checkParse(t, what, laid(a))
		}
		for n := range 24 {
			a.Opening, a.Value = "", strings.Repeat("v", n+1)
			what := fmt.Sprintf("a value of %d bytes alone", n+1)
			checkNotWritten(t, what, a)
			checkParse(t, what, laid(a))
		}
	}
}

// TestParts: 11.1: a signed head alone may be an answer, as it is of a name of none; nothing else alone may.
func TestParts(t *testing.T) {
	a := sample(1, 0, 1, true, "v")
	checkWrite(t, "a signed head alone", api.Answer{Signed: a.Signed}, laid(a)[:headSize]+"\x00\x00\x00")
	for i, x := range []api.Answer{{}, {Signed: api.Signed{Head: a.Signed.Head}}, {Signed: api.Signed{Seal: a.Signed.Seal}}, {Proof: a.Proof}, {Opening: a.Opening, Value: a.Value}} {
		checkNotWritten(t, fmt.Sprint("parts, ", i), x)
	}
}

// TestCut: 11.1: what lacks bytes at its end, at its beginning or in between, or has more of them, is of another form.
func TestCut(t *testing.T) {
	for i, a := range samples() {
		s := laid(a)
		for n := range len(s) {
			if n < headSize && i%12 > 0 {
				continue
			}
			checkForm(t, fmt.Sprintf("sample %d, its first %d bytes", i, n), s[:n])
			checkParse(t, fmt.Sprintf("sample %d, without byte %d", i, n), s[:n]+s[n+1:])
			checkParse(t, fmt.Sprintf("sample %d, from byte %d on", i, n+1), s[n+1:])
			checkParse(t, fmt.Sprintf("sample %d, byte %d twice", i, n), s[:n+1]+s[n:])
		}
		for _, more := range []string{"\x00", "\x01", "\xff", "\n", drawn(7), s, strings.Repeat("\x00", 1000)} {
			checkForm(t, fmt.Sprintf("sample %d, and %d bytes more", i, len(more)), s+more)
		}
	}
}

// numberPlaces are where in a text a byte tells a number.
func numberPlaces(a api.Answer) []int {
	flag := headSize + 1 + 16*len(a.Proof.Path)
	size := flag + 1
	if a.Proof.Leaf != (api.Item{}) {
		size += 32
	}
	return []int{0, 1, headSize, flag, size}
}

// TestNumberBytes: 11.1: whatever a byte tells that is a number: it is read, if what it tells may be and is there; else the text is of another form.
func TestNumberBytes(t *testing.T) {
	for i, a := range samples() {
		s := laid(a)
		for _, at := range numberPlaces(a) {
			for c := range 256 {
				b := []byte(s)
				b[at] = byte(c)
				checkParse(t, fmt.Sprintf("sample %d, byte %d is %d", i, at, c), string(b))
			}
		}
	}
}

// TestLongNumbers: 11.1: more than may be is of another form, though it is there in full; so is a leaf or a value that is told to be there by another number, or not.
func TestLongNumbers(t *testing.T) {
	signed := laid(sample(1, 0, 0, false, ""))[:headSize]
	leaf, opening := drawn(3)+drawn(4), drawn(5)
	for n := range 256 {
		b, way := string([]byte{byte(n)}), strings.Join(marks(100, n), "")
		checkParse(t, fmt.Sprintf("%d marks on the way", n), signed+b+way+"\x00\x00")
		checkParse(t, fmt.Sprintf("a leaf by %d", n), signed+"\x00"+b+leaf+"\x00")
		checkParse(t, fmt.Sprintf("no leaf by %d", n), signed+"\x00"+b+"\x00")
		checkParse(t, fmt.Sprintf("a value of %d bytes", n), signed+"\x00\x00"+b+opening+strings.Repeat("v", n))
		checkParse(t, fmt.Sprintf("no opening, and a value of %d bytes", n), signed+"\x00\x00"+b+strings.Repeat("v", n))
	}
	checkForm(t, "129 marks on the way", signed+"\x81"+strings.Join(marks(100, 129), "")+"\x00\x00")
	checkForm(t, "a leaf by 2", signed+"\x00\x02"+leaf+"\x00")
	checkForm(t, "no leaf by 2", signed+"\x00\x02\x00")
	checkForm(t, "a value of 25 bytes", signed+"\x00\x00\x19"+opening+strings.Repeat("v", 25))
	checkForm(t, "an opening without a value", signed+"\x00\x00\x00"+opening)
	checkForm(t, "a value without an opening", signed+"\x00\x00\x01v")
}

// TestOtherBytes: 11.1: any other byte of a text may be another one: it is one of a mark, or of the value.
func TestOtherBytes(t *testing.T) {
	for _, a := range []api.Answer{sample(1, 0, 2, true, "value"), sample(8, 7, 3, false, "")} {
		s := laid(a)
		for at := range len(s) {
			if slices.Contains(numberPlaces(a), at) {
				continue
			}
			for _, turn := range []byte{0x01, 0x80, 0xff} {
				b := []byte(s)
				b[at] ^= turn
				what := fmt.Sprintf("byte %d turned by %x", at, turn)
				if _, ok := found(string(b)); !ok {
					t.Errorf("%s: that is no answer", what)
				}
				checkParse(t, what, string(b))
			}
		}
	}
}

// TestSameBytes: 11.1: texts of one byte, again and again, are of another form, but for the one length at which they are an answer.
func TestSameBytes(t *testing.T) {
	for c := range 256 {
		long := strings.Repeat(string([]byte{byte(c)}), 4000)
		for n := range len(long) {
			if n > 900 && c > 30 && n%7 > 0 {
				continue
			}
			what := fmt.Sprintf("%d times %d", n, c)
			if c == 1 && n == headSize+1+16+1+32+1+16+1 {
				checkWrite(t, what, api.Answer{
					Signed:  api.Signed{Head: api.Head{Epoch: 1, Root: long[:16], Prev: long[:16]}, Seal: api.Seal{Key: 1, Sig: cut(long, 0, 35), Path: cut(long, 0, 3)}},
					Proof:   api.Proof{Path: cut(long, 0, 1), Leaf: api.Item{Index: long[:16], Commit: long[:16]}},
					Opening: long[:16], Value: long[:1],
				}, long[:n])
			} else {
				checkForm(t, what, long[:n])
			}
		}
	}
}

// TestLongTexts: 11.1, P1: texts that are long are of another form, however they begin.
func TestLongTexts(t *testing.T) {
	s := laid(sample(1, 0, 128, true, "abcdefghijklmnopqrstuvwx"))
	checkForm(t, "noughts", strings.Repeat("\x00", 1<<24))
	checkForm(t, "again and again", strings.Repeat(s, 1<<12))
	checkForm(t, "a tail", s+strings.Repeat("\x00", 1<<24))
	a := sample(1, 0, 1, true, strings.Repeat("v", 1<<24))
	checkNotWritten(t, "a long value", a)
	a = sample(1, 0, 1, true, "v")
	a.Opening = strings.Repeat("v", 1<<24)
	checkNotWritten(t, "a long opening", a)
	a = sample(1, 0, 1<<20, true, "v")
	checkNotWritten(t, "a long way", a)
}

// newDir is a directory of a secret.
func newDir(t *testing.T) *dir.Dir {
	t.Helper()
	d, err := dir.New(drawn(20))
	check(t, "the directory", err, api.OK)
	return d
}

// looked is what a directory tells of a name.
func looked(t *testing.T, d *dir.Dir, name string) api.Answer {
	t.Helper()
	a, err := d.Lookup(name)
	check(t, "Lookup of "+name, err, api.OK)
	return a
}

// TestDirectory: 11.1: whatever a directory tells is written, and read again; a client believes of what was read what it believes of what was told.
func TestDirectory(t *testing.T) {
	d := newDir(t)
	c, err := client.New(d.Public())
	check(t, "the client", err, api.OK)
	for n := range 8 {
		for i := range 7 * n {
			check(t, "Put", d.Put(fmt.Sprint("name", i), fmt.Sprint("value ", i, " of ", n)), api.OK)
		}
		_, err := d.Publish()
		check(t, "Publish", err, api.OK)
		for i := range 60 {
			name := fmt.Sprint("name", i)
			what := fmt.Sprint(name, " in epoch ", n+1)
			a := looked(t, d, name)
			checkWrite(t, what, a, laid(a))
			read, err := wire.Parse(laid(a))
			check(t, what, err, api.OK)
			value, there, err := c.Ask(name, read)
			check(t, what, err, api.OK)
			if value != a.Value || there != (i < 7*n) {
				t.Errorf("%s: %q, %v", what, value, there)
			}
		}
	}
}

// TestTurnedBytes: 11.1: of what a directory tells no byte can be turned unnoticed: the text is of another form, or a client does not believe it.
func TestTurnedBytes(t *testing.T) {
	d := newDir(t)
	for _, name := range []string{"ann", "bob", "eve"} {
		check(t, "Put", d.Put(name, "key of "+name), api.OK)
	}
	_, err := d.Publish()
	check(t, "Publish", err, api.OK)
	for _, name := range []string{"ann", "zed"} {
		s := laid(looked(t, d, name))
		for k := range 8 * len(s) {
			if k%8 != k/8%8 && k/8 < headSize {
				continue
			}
			b := []byte(s)
			b[k/8] ^= 1 << (k % 8)
			checkParse(t, fmt.Sprintf("%s, bit %d", name, k), string(b))
			c, err := client.New(d.Public())
			check(t, "the client", err, api.OK)
			if a, err := wire.Parse(string(b)); err == nil {
				if value, there, err := c.Ask(name, a); err == nil {
					t.Errorf("%s, bit %d: %q, %v is believed", name, k, value, there)
				}
			}
		}
	}
}

// TestLeavesLists: P4: no list is written into, nor what stands behind its length; what was written stays, whatever is written into them later.
func TestLeavesLists(t *testing.T) {
	for i, a := range samples() {
		var rooms, copies [][]string
		room := func(l []string) []string {
			r := append(slices.Clone(l), "behind", "it")
			rooms, copies = append(rooms, r), append(copies, slices.Clone(r))
			return r[:len(l)]
		}
		a.Signed.Seal.Sig, a.Signed.Seal.Path, a.Proof.Path = room(a.Signed.Seal.Sig), room(a.Signed.Seal.Path), room(a.Proof.Path)
		want := laid(a)
		got, err := wire.Write(a)
		check(t, fmt.Sprint("sample ", i), err, api.OK)
		for k := range rooms {
			if !slices.Equal(rooms[k], copies[k]) {
				t.Errorf("sample %d: list %d is now %x", i, k, rooms[k])
			}
			clear(rooms[k])
		}
		if got != want {
			t.Errorf("sample %d: what was written is now %x", i, got)
		}
	}
}

// TestFreshLists: P4: lists that were read are the caller's, each its own, also behind its length.
func TestFreshLists(t *testing.T) {
	for i, a := range samples() {
		s := laid(a)
		lists := func(x *api.Answer) []*[]string {
			return []*[]string{&x.Signed.Seal.Sig, &x.Signed.Seal.Path, &x.Proof.Path}
		}
		for k := range 3 {
			got, err := wire.Parse(s)
			check(t, fmt.Sprint("sample ", i), err, api.OK)
			written := lists(&got)[k]
			clear((*written)[:cap(*written)])
			*written = *lists(&a)[k]
			if !same(got, a) {
				t.Errorf("sample %d: with list %d written into it is %x", i, k, got)
			}
		}
		checkWrite(t, fmt.Sprint("sample ", i, " again"), a, s)
	}
}

// FuzzParse: 11.1: of any text the answer is told that lies in it, or ErrForm.
func FuzzParse(f *testing.F) {
	for _, a := range samples() {
		f.Add([]byte(laid(a)))
	}
	f.Fuzz(func(t *testing.T, b []byte) {
		checkParse(t, fmt.Sprintf("%x", b), string(b))
	})
}

func BenchmarkWrite(b *testing.B) {
	a := sample(1, 0, 10, true, "value")
	for b.Loop() {
		wire.Write(a)
	}
}

func BenchmarkParse(b *testing.B) {
	s := laid(sample(1, 0, 10, true, "value"))
	for b.Loop() {
		wire.Parse(s)
	}
}
