package octet_test

import (
	"bytes"
	"encoding/hex"
	"math"
	"strings"
	"testing"

	"oathbook/api"
	"oathbook/octet"
	"oathbook/plain"
)

// wantErr: the error is the one that is wanted.
func wantErr(t *testing.T, name string, err error, want api.Errno) {
	t.Helper()
	if got := plain.Told(err); got != want {
		t.Errorf("%s: told %v, want %v", name, got, want)
	}
}

// everyByte: each byte once, in order.
func everyByte() []byte {
	b := make([]byte, 256)
	for i := range b {
		b[i] = byte(i)
	}
	return b
}

// OC1: Hex.

func TestHex(t *testing.T) {
	cases := []struct {
		b    []byte
		want string
	}{
		{nil, ""},
		{[]byte{}, ""},
		{[]byte{0}, "00"},
		{[]byte{9, 10}, "090a"},
		{[]byte{15, 16}, "0f10"},
		{[]byte{18, 171}, "12ab"},
		{[]byte{255}, "ff"},
		{[]byte{0, 0, 0}, "000000"},
	}
	for _, c := range cases {
		if got := octet.Hex(c.b); got != c.want {
			t.Errorf("Hex(%v): got %q, want %q", c.b, got, c.want)
		}
	}
}

func TestHexOfEveryByte(t *testing.T) {
	b := everyByte()
	if got, want := octet.Hex(b), hex.EncodeToString(b); got != want {
		t.Errorf("got %q, want %q", got, want)
	}
}

// OC1: Unhex.

func TestUnhex(t *testing.T) {
	cases := []struct {
		s    string
		want []byte
	}{
		{"", nil},
		{"00", []byte{0}},
		{"090a", []byte{9, 10}},
		{"12ab", []byte{18, 171}},
		{"ff", []byte{255}},
		{"0001", []byte{0, 1}},
	}
	for _, c := range cases {
		got, err := octet.Unhex(c.s)
		wantErr(t, c.s, err, api.OK)
		if !bytes.Equal(got, c.want) {
			t.Errorf("Unhex(%q): got %v, want %v", c.s, got, c.want)
		}
	}
}

func TestUnhexOfWhatHexNeverTells(t *testing.T) {
	for _, s := range []string{
		"0", "12a", "12A", "12AB", "aB", "Ab", " 00", "00 ", "0x", "0x12", "-1", "+1",
		"0g", "g0", "12\n", "\x00\x00", "é", "００", "12ab1g", strings.Repeat("0", 999),
	} {
		got, err := octet.Unhex(s)
		wantErr(t, s, err, api.ErrSyntax)
		if got != nil {
			t.Errorf("Unhex(%q): got %v beside an error", s, got)
		}
	}
}

// Every text of two bytes: it is read just where Hex tells it.
func TestUnhexOfEveryPair(t *testing.T) {
	told := map[string]byte{}
	for _, x := range everyByte() {
		told[octet.Hex([]byte{x})] = x
	}
	if len(told) != 256 {
		t.Fatalf("Hex tells %d texts of 256 bytes", len(told))
	}
	for i := range 1 << 16 {
		s := string([]byte{byte(i >> 8), byte(i)})
		got, err := octet.Unhex(s)
		x, ok := told[s]
		switch {
		case ok && (err != nil || len(got) != 1 || got[0] != x):
			t.Errorf("Unhex(%q): got %v %v, want [%d]", s, got, err, x)
		case !ok && (plain.Told(err) != api.ErrSyntax || got != nil):
			t.Errorf("Unhex(%q): got %v %v, want ErrSyntax", s, got, err)
		}
	}
}

func TestUnhexOfHex(t *testing.T) {
	for size := range 257 {
		b := everyByte()[256-size:]
		got, err := octet.Unhex(octet.Hex(b))
		if err != nil || !bytes.Equal(got, b) {
			t.Errorf("%v comes back as %v %v", b, got, err)
		}
	}
}

// OC2: Put.

func TestPut(t *testing.T) {
	cases := []struct {
		n, size int
		want    []byte
	}{
		{0, 1, []byte{0}},
		{0, 8, []byte{0, 0, 0, 0, 0, 0, 0, 0}},
		{255, 1, []byte{255}},
		{256, 2, []byte{1, 0}},
		{258, 3, []byte{0, 1, 2}},
		{0x0102030405060708, 8, []byte{1, 2, 3, 4, 5, 6, 7, 8}},
		{1<<56 - 1, 7, []byte{255, 255, 255, 255, 255, 255, 255}},
		{math.MaxInt, 8, []byte{127, 255, 255, 255, 255, 255, 255, 255}},
	}
	for _, c := range cases {
		got, err := octet.Put(c.n, c.size)
		if err != nil || !bytes.Equal(got, c.want) {
			t.Errorf("Put(%d, %d): got %v %v, want %v", c.n, c.size, got, err, c.want)
		}
	}
}

func TestPutOutOfRange(t *testing.T) {
	cases := []struct{ n, size int }{
		{0, 0}, {0, -1}, {0, 9}, {0, math.MinInt}, {0, math.MaxInt},
		{1, 0}, {1, 9}, {1, 64},
		{-1, 1}, {-1, 8}, {-256, 2}, {math.MinInt, 8}, {-1, 0},
		{256, 1}, {math.MaxInt, 1}, {math.MaxInt, 7},
	}
	for _, c := range cases {
		got, err := octet.Put(c.n, c.size)
		wantErr(t, "Put", err, api.ErrRange)
		if got != nil {
			t.Errorf("Put(%d, %d): got %v beside an error", c.n, c.size, got)
		}
	}
}

// The greatest number of each size has room, and the next has none.
func TestPutAtTheEdgeOfEachSize(t *testing.T) {
	for size := 1; size < 8; size++ {
		edge := 1 << (8 * size)
		got, err := octet.Put(edge-1, size)
		if err != nil || !bytes.Equal(got, bytes.Repeat([]byte{255}, size)) {
			t.Errorf("Put(%d, %d): got %v %v", edge-1, size, got, err)
		}
		_, err = octet.Put(edge, size)
		wantErr(t, "Put", err, api.ErrRange)
	}
}

// OC2: Num.

func TestNum(t *testing.T) {
	cases := []struct {
		b    []byte
		want int
	}{
		{[]byte{0}, 0},
		{[]byte{255}, 255},
		{[]byte{128}, 128},
		{[]byte{1, 2}, 258},
		{[]byte{0, 0, 7}, 7},
		{[]byte{255, 255, 255, 255, 255, 255, 255}, 1<<56 - 1},
		{[]byte{0, 0, 0, 0, 0, 0, 0, 0}, 0},
		{[]byte{1, 2, 3, 4, 5, 6, 7, 8}, 0x0102030405060708},
		{[]byte{127, 255, 255, 255, 255, 255, 255, 255}, math.MaxInt},
	}
	for _, c := range cases {
		got, err := octet.Num(c.b)
		if err != nil || got != c.want {
			t.Errorf("Num(%v): got %d %v, want %d", c.b, got, err, c.want)
		}
	}
}

func TestNumOutOfRange(t *testing.T) {
	for _, b := range [][]byte{
		nil,
		{},
		{128, 0, 0, 0, 0, 0, 0, 0},
		{255, 255, 255, 255, 255, 255, 255, 255},
		{0, 0, 0, 0, 0, 0, 0, 0, 0},
		{0, 0, 0, 0, 0, 0, 0, 0, 1},
		make([]byte, 1000),
	} {
		got, err := octet.Num(b)
		wantErr(t, "Num", err, api.ErrRange)
		if got != 0 {
			t.Errorf("Num(%v): got %d beside an error", b, got)
		}
	}
}

func TestNumOfPut(t *testing.T) {
	for size := 1; size <= 8; size++ {
		for bit := range min(8*size, 63) {
			for _, n := range []int{1 << bit, 1<<bit - 1, 1<<bit | 1} {
				b, err := octet.Put(n, size)
				if err != nil || len(b) != size {
					t.Fatalf("Put(%d, %d): got %v %v", n, size, b, err)
				}
				if got, err := octet.Num(b); err != nil || got != n {
					t.Errorf("%d in %d bytes comes back as %d %v", n, size, got, err)
				}
			}
		}
	}
}

// P2, P4: what is handed in stays, with what lies behind its length, and what comes out is fresh.

func TestArgumentsStay(t *testing.T) {
	room := []byte{1, 2, 3, 255, 255}
	b := room[:3]
	if got := octet.Hex(b); got != "010203" {
		t.Errorf("Hex: got %q", got)
	}
	if got, err := octet.Num(b); got != 0x010203 || err != nil {
		t.Errorf("Num: got %d %v", got, err)
	}
	if !bytes.Equal(room, []byte{1, 2, 3, 255, 255}) {
		t.Errorf("the bytes are now %v", room)
	}
}

func TestAnswersAreFresh(t *testing.T) {
	put := func() []byte { b, _ := octet.Put(258, 2); return b }
	unhex := func() []byte { b, _ := octet.Unhex("0102"); return b }
	for _, call := range []func() []byte{put, unhex} {
		first := call()
		first[0], first[1] = 9, 9
		if second := call(); !bytes.Equal(second, []byte{1, 2}) {
			t.Errorf("the next answer is %v", second)
		}
	}
}

func TestTextOutlivesBytes(t *testing.T) {
	b := []byte{18, 171}
	s := octet.Hex(b)
	b[0] = 0
	if s != "12ab" {
		t.Errorf("the text is now %q", s)
	}
}
