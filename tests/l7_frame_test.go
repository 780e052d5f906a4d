package tests

import (
	"fmt"
	"hash/crc32"
	"math/rand"
	"slices"
	"strconv"
	"strings"
	"testing"

	"loop.example/telltale/impl"
)

func data(wire, seq int, vals ...int) impl.Frame {
	return impl.Frame{Kind: impl.FrameData, Wire: wire, Seq: seq, Vals: vals}
}

func ack(wire, seq int) impl.Frame {
	return impl.Frame{Kind: impl.FrameAck, Wire: wire, Seq: seq}
}

// sealed is a text with its sum behind it, as a frame has it, whatever the text is.
func sealed(head string) string {
	return head + " " + strconv.FormatUint(uint64(crc32.ChecksumIEEE([]byte(head))), 10)
}

// isSmall says whether values are few enough for a frame, and in 32 bits.
func isSmall(vals []int) bool {
	return len(vals) <= 3 && fits(vals, len(vals))
}

func wantFrameOk(f impl.Frame) bool {
	kind := f.Kind == 1 || f.Kind == 2 && len(f.Vals) == 0
	return kind && f.Wire >= 0 && f.Wire <= 6 && f.Seq >= 0 && f.Seq <= 9999 && isSmall(f.Vals)
}

// wantFrameText is the text that the document asks for of a frame that is ok.
func wantFrameText(f impl.Frame) string {
	vals := strings.ReplaceAll(strings.Trim(fmt.Sprint(f.Vals), "[]"), " ", ",")
	if vals == "" {
		vals = "-"
	}
	return sealed(fmt.Sprintf("%d %d %d %s", f.Kind, f.Wire, f.Seq, vals))
}

func someFrame(r *rand.Rand) impl.Frame {
	seq := []int{0, 1, 9, 10, 9998, 9999, r.Intn(10000)}[r.Intn(7)]
	if r.Intn(4) == 0 {
		return ack(r.Intn(7), seq)
	}
	return data(r.Intn(7), seq, some32s(r, r.Intn(4))...)
}

// wrongFrame changes one thing of a frame, mostly for the worse.
func wrongFrame(r *rand.Rand, f impl.Frame) impl.Frame {
	far := []int{-1, 0, 3, 6, 7, 8, 9999, 10000, 1 << 32, 1<<32 + 1, -1 << 63, 1<<63 - 1}[r.Intn(12)]
	switch r.Intn(5) {
	case 0:
		f.Kind = far
	case 1:
		f.Wire = far
	case 2:
		f.Seq = far
	case 3:
		f.Vals = someValues(r, r.Intn(6))
	case 4:
		f.Kind = impl.FrameAck
	}
	return f
}

// keepsFrame asks for what the document asks for of a frame, written and read.
func keepsFrame(t *testing.T, f impl.Frame) {
	t.Helper()
	h := hand(f)
	want := wantFrameOk(f)
	if got := impl.FrameOk(h.now); got != want {
		t.Fatalf("%v: ok %v, not %v", f, got, want)
	}
	s := impl.FramePut(h.now)
	if !h.isUntouched() {
		t.Fatalf("%v was written", f)
	}
	if !want {
		if s != "" {
			t.Fatalf("%v: %q", f, s)
		}
		return
	}
	if s != wantFrameText(f) || len(s) > impl.FrameMax {
		t.Fatalf("%v: %q, not %q", f, s, wantFrameText(f))
	}
	if back, ok := impl.FrameGet(s); !ok || !same(back, f) {
		t.Fatalf("%q: %v %v, not %v", s, ok, back, f)
	}
}

func TestP23FramesAreReadBack(t *testing.T) {
	for kind := -1; kind <= 4; kind++ {
		for wire := -2; wire <= 8; wire++ {
			for _, seq := range []int{-1 << 63, -10000, -1, 0, 1, 9, 10, 99, 100, 1000, 9998, 9999, 10000, 10001, 99999, 1 << 32, 1<<63 - 1} {
				for size := 0; size <= 5; size++ {
					keepsFrame(t, impl.Frame{Kind: kind, Wire: wire, Seq: seq, Vals: make([]int, size)})
				}
			}
		}
	}
	for seq := range 10000 {
		keepsFrame(t, ack(seq%7, seq))
		keepsFrame(t, data(6-seq%7, seq, seq, -seq))
	}
	r := rand.New(rand.NewSource(23))
	for range 20000 {
		f := someFrame(r)
		keepsFrame(t, f)
		keepsFrame(t, wrongFrame(r, f))
	}
}

func TestP23ValuesOfFrames(t *testing.T) {
	edges := []int{lowest, lowest + 1, -10, -1, 0, 1, 9, 10, 100000, highest - 1, highest}
	beyond := []int{lowest - 1, highest + 1, 1 << 32, -1 << 32, 1<<32 + 5, -1 << 63, 1<<63 - 1}
	for _, x := range edges {
		for _, y := range append(slices.Clone(edges), beyond...) {
			for size := 1; size <= 4; size++ {
				for at := range size {
					vals := slices.Repeat([]int{x}, size)
					vals[at] = y
					keepsFrame(t, data(2, 17, vals...))
					keepsFrame(t, impl.Frame{Kind: impl.FrameAck, Wire: 2, Seq: 17, Vals: vals})
				}
			}
		}
	}
	keepsFrame(t, data(0, 0, make([]int, 100000)...))
}

// TestP23TextsOfFrames has texts that are written out here, sums included.
func TestP23TextsOfFrames(t *testing.T) {
	if impl.FrameData != 1 || impl.FrameAck != 2 || impl.SeqMax != 9999 || impl.FrameMax != 80 {
		t.Error("a number is another one")
	}
	cases := map[string]impl.Frame{
		"1 3 17 0,-2147483648,2147483647 ": data(3, 17, 0, lowest, highest),
		"1 0 0 - ":                         data(0, 0),
		"1 6 9999 5 ":                      data(6, 9999, 5),
		"1 1 20 -1,10 ":                    data(1, 20, -1, 10),
		"2 0 0 - ":                         ack(0, 0),
		"2 6 9999 - ":                      ack(6, 9999),
	}
	for head, f := range cases {
		keepsFrame(t, f)
		s := impl.FramePut(f)
		if !strings.HasPrefix(s, head) || s[len(head):] != strconv.Itoa(impl.Crc(head[:len(head)-1])) {
			t.Errorf("%v: %q", f, s)
		}
	}
	keepsFrame(t, data(6, 9999, lowest, lowest, lowest))
	if s := impl.FramePut(data(6, 9999, lowest, lowest, lowest)); s != "1 6 9999 -2147483648,-2147483648,-2147483648 2184865287" {
		t.Errorf("the longest: %q", s)
	}
	if s := impl.FramePut(impl.Frame{Kind: impl.FrameAck, Vals: []int{}}); s != sealed("2 0 0 -") {
		t.Errorf("empty values: %q", s)
	}
	for _, s := range []string{impl.FramePut(impl.Frame{}), impl.FramePut(impl.Frame{Kind: impl.FrameAck, Vals: []int{0}})} {
		if s != "" {
			t.Errorf("%q", s)
		}
	}
}

// TestP23NothingIsShared asks for new values each time that a text is read.
func TestP23NothingIsShared(t *testing.T) {
	s := impl.FramePut(data(4, 8, 1, 2, 3))
	a, _ := impl.FrameGet(s)
	b, _ := impl.FrameGet(s)
	if !areApart(a, b) {
		t.Error("memory is shared")
	}
	a.Vals[0] = 7
	if c, ok := impl.FrameGet(s); !ok || !same(b, c) || !same(c, data(4, 8, 1, 2, 3)) {
		t.Error(b, c)
	}
}

// notRead asks that a text is no frame.
func notRead(t *testing.T, s string) {
	t.Helper()
	if f, ok := impl.FrameGet(s); ok || !same(f, impl.Frame{}) {
		t.Fatalf("%q: %v %v", s, ok, f)
	}
}

// TestP24WrongTextsWithRightSums has texts that only how they are written keeps from being frames.
func TestP24WrongTextsWithRightSums(t *testing.T) {
	for _, head := range []string{"1 3 17 5", "1 3 17 -", "2 3 17 -", "1 0 0 -5,0,10"} {
		if f, ok := impl.FrameGet(sealed(head)); !ok || impl.FramePut(f) != sealed(head) {
			t.Errorf("%q: %v %v", head, ok, f)
		}
	}
	wrong := []string{
		// Kinds, wires, numbers and values beyond their limits.
		"0 3 17 -", "3 3 17 -", "-1 3 17 5", "10 3 17 5", "1 7 17 5", "1 -1 17 5", "1 10 17 5", "1 3 10000 5", "1 3 -1 5", "1 3 4294967296 5", "1 4294967299 17 5",
		"1 3 17 1,2,3,4", "1 3 17 2147483648", "1 3 17 -2147483649", "1 3 17 4294967296", "1 3 17 1,9223372036854775807", "1 3 17 99999999999999999999", "1 3 99999999999999999999 5", "18446744073709551617 3 17 5",
		// What came, with values.
		"2 3 17 5", "2 3 17 0", "2 3 17 1,2", "2 0 0 0,0,0",
		// Needless noughts.
		"01 3 17 5", "1 03 17 5", "1 3 017 5", "1 3 17 05", "1 3 17 -05", "1 3 17 1,02", "1 3 00 5", "1 00 17 5", "1 3 17 00", "1 3 17 -0", "1 3 17 1,-0",
		// Needless signs.
		"+1 3 17 5", "1 +3 17 5", "1 3 +17 5", "1 3 17 +5", "1 3 17 1,+5", "1 -0 17 5", "1 3 -0 5", "1 3 17 --5", "1 3 17 - 5", "1 3 17 5-", "1 3 17 +0", "1 3 17 +",
		// Needless commas, and values that are missing.
		"1 3 17 ,5", "1 3 17 5,", "1 3 17 1,,2", "1 3 17 ,", "1 3 17 ,,", "1 3 17 -,", "1 3 17 -,-", "1 3 17 1,-", "1 3 17 -,1", "1 3 17 --", "1 3 17, 5", "1,3 17 5", "1 3,17 5", "1 3 17 1,2,3,", "2 3 17 ,", "2 3 17 --",
		// Needless blanks, and blanks that are missing.
		" 1 3 17 5", "1  3 17 5", "1 3  17 5", "1 3 17  5", "1 3 17 5 ", "1 3 17 1, 2", "1 3 17 1 ,2", "1 3 17 1 2", "1 317 5", "13 17 5", "1 3 175", "1 3 17 ", "1 3 17", "1 3", "1", "", " ", "    ", "1 3 17 5 5", "2 3 17", "2 3 17 ", "2 3 17 - ", "2 3 17  -", "2 3 17 - -",
		// Other bytes and other ways to write numbers.
		"1\t3 17 5", "1 3 17\t5", "\n1 3 17 5", "1 3 17 5\n", "1 3 17 5\r", "1 3 17 5\x00", "1\x003 17 5", "1 3 17 0x5", "1 3 17 1_0", "1 3 1_7 5", "1 3 17 5.0", "1 3 17 1e1", "1 3 17 a", "a 3 17 5", "1 x 17 5", "1 3 y 5", "1 3 17 1;2", "1 3 17 \xff", "1 3 17 ٥", "1 3 17 5\u00a0", "1\u00a03 17 5", "１ 3 17 5", "1 3 17 −5",
	}
	for _, head := range wrong {
		notRead(t, sealed(head))
		notRead(t, head)
	}
}

// TestP24WrongSums has frames all of which is right but how their sum is written.
func TestP24WrongSums(t *testing.T) {
	r := rand.New(rand.NewSource(24))
	for range 500 {
		s := impl.FramePut(someFrame(r))
		at := strings.LastIndexByte(s, ' ')
		head := s[:at]
		sum, _ := strconv.Atoi(s[at+1:])
		texts := []string{
			s + " ", s + "\n", " " + s, s + "0", s + ",", s + " 0", s + s, s + " " + s, s + "\x00", head, head + " ", head + "  " + s[at+1:], head + s[at+1:],
			head + " 0" + s[at+1:], head + " 00" + s[at+1:], head + " +" + s[at+1:], head + " -" + s[at+1:], head + " -", head + " " + s[at+1:] + "-", head + " " + s[at+1:] + ".",
			head + " " + strconv.FormatInt(int64(sum), 16), head + " 0x" + strconv.FormatInt(int64(sum), 16), head + "," + s[at+1:], head + "\t" + s[at+1:],
		}
		for _, other := range []int{sum + 1, sum - 1, sum + 1<<32, sum - 1<<32, 1<<32 - 1 - sum, -sum - 1, impl.Crc(head + " ")} {
			texts = append(texts, head+" "+strconv.Itoa(other))
		}
		for _, x := range texts {
			notRead(t, x)
		}
	}
	// A text that is too long is none, though its words were right.
	notRead(t, impl.FramePut(data(1, 2, 3))+strings.Repeat(" ", 100000))
	notRead(t, strings.Repeat("1 ", 500000))
	notRead(t, sealed("1 3 17 "+strings.Repeat("0", 70)+"5"))
	notRead(t, "")
}

func TestP24WhatIsReadIsWrittenSo(t *testing.T) {
	r := rand.New(rand.NewSource(25))
	read := map[bool]int{}
	for range 60000 {
		// The head is spoilt, and its sum right again, so that frames come out of it, too.
		s := impl.FramePut(someFrame(r))
		head := spoilt(r, s[:strings.LastIndexByte(s, ' ')])
		s = sealed(head)
		f, ok := impl.FrameGet(s)
		read[ok]++
		if ok && (impl.FramePut(f) != s || !impl.FrameOk(f) || wantFrameText(f) != s) {
			t.Fatalf("%q is read as %v", s, f)
		}
		if !ok && !same(f, impl.Frame{}) {
			t.Fatalf("%q: %v", s, f)
		}
	}
	if read[true] < 5000 || read[false] < 5000 {
		t.Error(read)
	}
}

func TestP25OneByteIsAnotherOne(t *testing.T) {
	r := rand.New(rand.NewSource(26))
	list := []impl.Frame{ack(0, 0), ack(6, 9999), data(0, 0), data(0, 0, 0), data(0, 0, 0, 0, 0), data(6, 9999, lowest, lowest, highest), data(1, 11, -1, 1)}
	for range 30 {
		list = append(list, someFrame(r))
	}
	for _, f := range list {
		s := impl.FramePut(f)
		for at := range len(s) {
			for c := range 256 {
				if byte(c) != s[at] {
					notRead(t, s[:at]+string([]byte{byte(c)})+s[at+1:])
				}
			}
		}
	}
}

func TestP25WithoutItsEnd(t *testing.T) {
	r := rand.New(rand.NewSource(27))
	for range 2000 {
		s := impl.FramePut(someFrame(r))
		for at := range len(s) {
			notRead(t, s[:at])
			notRead(t, s[:at]+s[at+1:])
			if at > 0 {
				notRead(t, s[at:])
			}
		}
	}
}

func TestP26SumsThatAreKnown(t *testing.T) {
	cases := map[string]int{
		"":                         0,
		"123456789":                3421780262,
		"a":                        3904355907,
		"abc":                      891568578,
		"\x00":                     3523407757,
		"\x00\x00\x00\x00":         558161692,
		"\xff":                     4278190080,
		"\xff\xff\xff\xff":         4294967295,
		strings.Repeat("\xff", 32): 0xFF6CAB0B,
		strings.Repeat("\x00", 32): 0x190A55AD,
		"The quick brown fox jumps over the lazy dog": 1095738169,
	}
	for s, want := range cases {
		if got := impl.Crc(s); got != want {
			t.Errorf("%q: %d, not %d", s, got, want)
		}
	}
}

func TestP26SumsOfAllTexts(t *testing.T) {
	r := rand.New(rand.NewSource(28))
	all := make([]byte, 100000)
	r.Read(all)
	for size := range 600 {
		from := r.Intn(len(all) - size)
		s := all[from : from+size]
		if got := impl.Crc(string(s)); got != int(crc32.ChecksumIEEE(s)) || got < 0 || got > 4294967295 {
			t.Fatalf("%x: %d", s, got)
		}
	}
	if got := impl.Crc(string(all)); got != int(crc32.ChecksumIEEE(all)) {
		t.Error(got)
	}
	for c := range 1 << 16 {
		s := string([]byte{byte(c), byte(c >> 8)})
		if got := impl.Crc(s); got != int(crc32.ChecksumIEEE([]byte(s))) {
			t.Fatalf("%x: %d", s, got)
		}
	}
}

func TestP26AnotherByteIsAnotherSum(t *testing.T) {
	r := rand.New(rand.NewSource(29))
	for size := range 100 {
		head := make([]byte, size)
		r.Read(head)
		sums := map[int]bool{}
		for c := range 256 {
			sums[impl.Crc(string(head)+string([]byte{byte(c)}))] = true
		}
		if len(sums) != 256 {
			t.Fatalf("%x: %d sums", head, len(sums))
		}
	}
}
