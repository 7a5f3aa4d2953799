package share_test

import (
	"bytes"
	"crypto/sha256"
	"encoding/hex"
	"fmt"
	"math"
	"reflect"
	"slices"
	"sync"
	"testing"

	"oathbook/api"
	"oathbook/field"
	"oathbook/plain"
	"oathbook/share"
)

// most: so many shares, and so many rows behind a secret, there may be.
const most = 20

// longest: so many bytes a secret may have.
const longest = 100

// some: n bytes without an order, others for each seed.
func some(seed byte, n int) []byte {
	b := []byte{}
	for i := range n {
		sum := sha256.Sum256([]byte{seed, byte(i), byte(i >> 8)})
		b = append(b, sum[0])
	}
	return b
}

// rows: n rows of so many bytes without an order.
func rows(n, size int) [][]byte {
	more := [][]byte{}
	for j := range n {
		more = append(more, some(byte(100+j), size))
	}
	return more
}

// places: n places of which no two are alike: the first one, and so many on each time, from 255 to 1.
func places(n, first, on int) []byte {
	ats := []byte{}
	for i := range n {
		ats = append(ats, byte((first-1+i*on)%255+1))
	}
	return ats
}

// made: shares that no Split made: at each place so many bytes without an order.
func made(ats []byte, size int) []api.Share {
	ss := []api.Share{}
	for _, at := range ats {
		ss = append(ss, api.Share{At: at, Data: some(at, size)})
	}
	return ss
}

// at: those shares of a list that stand at these places of it.
func at(ss []api.Share, is ...int) []api.Share {
	these := []api.Share{}
	for _, i := range is {
		these = append(these, ss[i])
	}
	return these
}

// of: a share of these bytes.
func of(at byte, data ...byte) api.Share { return api.Share{At: at, Data: data} }

// copyOf: a list of lists, with memory of its own.
func copyOf(more [][]byte) [][]byte {
	var c [][]byte
	for _, row := range more {
		c = append(c, slices.Clone(row))
	}
	return c
}

// copyOfShares: a list of shares, with memory of its own.
func copyOfShares(ss []api.Share) []api.Share {
	var c []api.Share
	for _, s := range ss {
		c = append(c, api.Share{At: s.At, Data: slices.Clone(s.Data)})
	}
	return c
}

// withRoom: the same bytes, with room behind them in which stands what is nobody's.
func withRoom(b []byte) []byte {
	room := append(slices.Clone(b), 171, 205, 239, 1, 35)
	return room[:len(b)]
}

// outside: numbers of shares that are out of range.
func outside() []int {
	return []int{0, -1, -2, -20, -21, -255, -256, -1 << 32, -1<<32 + 1, math.MinInt, math.MinInt + 1, math.MinInt + 20,
		21, 22, 40, 100, 255, 256, 257, 276, 1 << 16, 1 << 31, 1 << 32, 1<<32 + 1, 1<<32 + 20, 1 << 62, math.MaxInt - 1, math.MaxInt}
}

// products: the products of all pairs of bytes by the words of chapter 12: the product of both as lists of
// 0 and 1, then less x^8 + x^4 + x^3 + x + 1 (taken up as needed) where a power of 8 or more has 1.
var products = sync.OnceValue(func() *[256][256]byte {
	var all [256][256]byte
	for a := range 256 {
		for b := range 256 {
			p := 0
			for i := range 8 {
				if b>>i&1 == 1 {
					p ^= a << i
				}
			}
			for i := 14; i >= 8; i-- {
				if p>>i&1 == 1 {
					p ^= 0b100011011 << (i - 8)
				}
			}
			all[a][b] = byte(p)
		}
	}
	return &all
})

// wantMul: the product of two bytes.
func wantMul(a, b byte) byte { return products()[a][b] }

// wantInv: the byte whose product with a is 1, looked for among all.
func wantInv(a byte) byte {
	return byte(slices.Index(products()[a][:], 1))
}

// wantValue: c0 + c1 x + c2 x^2 and so on, each power by itself.
func wantValue(c []byte, x byte) byte {
	value, power := byte(0), byte(1)
	for _, b := range c {
		value ^= wantMul(b, power)
		power = wantMul(power, x)
	}
	return value
}

// wantSplit: byte i of share k is the value at k of byte i of the secret and of each of more.
func wantSplit(secret []byte, n int, more [][]byte) []api.Share {
	ss := []api.Share{}
	for k := 1; k <= n; k++ {
		data := []byte{}
		for i := range secret {
			c := []byte{secret[i]}
			for _, row := range more {
				c = append(c, row[i])
			}
			data = append(data, wantValue(c, byte(k)))
		}
		ss = append(ss, api.Share{At: byte(k), Data: data})
	}
	return ss
}

// wantPolynomial: the polynomial, of as many bytes as there are places, that has these values there: one
// equation a place, of which one unknown byte behind the other is put away. There is no other one, and so
// that of least degree is it, without the bytes 0 at its end.
func wantPolynomial(ats, values []byte) []byte {
	n := len(ats)
	lines := make([][]byte, n)
	for i, x := range ats {
		power := byte(1)
		for range n {
			lines[i] = append(lines[i], power)
			power = wantMul(power, x)
		}
		lines[i] = append(lines[i], values[i])
	}
	for i := range n {
		first := i + slices.IndexFunc(lines[i:], func(line []byte) bool { return line[i] != 0 })
		lines[i], lines[first] = lines[first], lines[i]
		back := wantInv(lines[i][i])
		for k := range lines[i] {
			lines[i][k] = wantMul(lines[i][k], back)
		}
		for j := range n {
			if times := lines[j][i]; j != i && times != 0 {
				for k := range lines[j] {
					lines[j][k] ^= wantMul(times, lines[i][k])
				}
			}
		}
	}
	c := []byte{}
	for _, line := range lines {
		c = append(c, line[n])
	}
	return c
}

// wantJoin: at each place the value at 0, which is the first byte, of the polynomial that has what the shares have.
func wantJoin(t *testing.T, ss []api.Share) []byte {
	t.Helper()
	secret := []byte{}
	for i := range ss[0].Data {
		var ats, values []byte
		for _, s := range ss {
			ats, values = append(ats, s.At), append(values, s.Data[i])
		}
		c := wantPolynomial(ats, values)
		for j, x := range ats {
			if wantValue(c, x) != values[j] {
				t.Fatalf("the test itself is wrong: of %v at %v it makes %v", values, ats, c)
			}
		}
		secret = append(secret, c[0])
	}
	return secret
}

// wantWrong: what is wrong with shares, by the chapter's words.
func wantWrong(ss []api.Share) api.Errno {
	if len(ss) < 1 || len(ss) > most {
		return api.ErrRange
	}
	var there [256]int
	for _, s := range ss {
		if s.At == 0 {
			return api.ErrRange
		}
		if there[s.At]++; there[s.At] > 1 {
			return api.ErrTwice
		}
		if len(s.Data) != len(ss[0].Data) {
			return api.ErrLength
		}
	}
	return api.OK
}

// split: Split where nothing is wrong.
func split(t *testing.T, secret []byte, n int, more [][]byte) []api.Share {
	t.Helper()
	ss, err := share.Split(secret, n, more)
	if err != nil {
		t.Fatalf("Split of %d bytes into %d with %d more: %v", len(secret), n, len(more), err)
	}
	return ss
}

// join: Join where nothing is wrong.
func join(t *testing.T, ss []api.Share) []byte {
	t.Helper()
	b, err := share.Join(ss)
	if err != nil {
		t.Fatalf("Join of %d shares: %v", len(ss), err)
	}
	return b
}

// sameShares: asks whether shares are as they should be.
func sameShares(t *testing.T, name string, got, want []api.Share) {
	t.Helper()
	if len(got) != len(want) {
		t.Fatalf("%s: got %d shares, want %d", name, len(got), len(want))
	}
	for i := range got {
		if got[i].At != want[i].At || !bytes.Equal(got[i].Data, want[i].Data) {
			t.Fatalf("%s: got share %d of bytes %v, want share %d of bytes %v",
				name, got[i].At, got[i].Data, want[i].At, want[i].Data)
		}
	}
}

// joins: asks whether Join tells these bytes of shares.
func joins(t *testing.T, name string, ss []api.Share, want []byte) {
	t.Helper()
	if got := join(t, ss); !bytes.Equal(got, want) {
		t.Fatalf("%s: got %v, want %v", name, got, want)
	}
}

// wantNoSplit: asks whether Split tells this error and nothing beside it.
func wantNoSplit(t *testing.T, name string, secret []byte, n int, more [][]byte, want api.Errno) {
	t.Helper()
	ss, err := share.Split(secret, n, more)
	if len(ss) != 0 || plain.Told(err) != want {
		t.Errorf("%s: got %d shares and %v, want %v", name, len(ss), err, want)
	}
}

// wantNoJoin: asks whether Join tells this error and nothing beside it.
func wantNoJoin(t *testing.T, name string, ss []api.Share, want api.Errno) {
	t.Helper()
	b, err := share.Join(ss)
	if len(b) != 0 || plain.Told(err) != want {
		t.Errorf("%s: got %d bytes and %v, want %v", name, len(b), err, want)
	}
}

// SS1: Value.

// The values are told by a throw-away script, which took its products from a table of the powers of 3.
func TestValue(t *testing.T) {
	cases := []struct {
		c    []byte
		x    byte
		want byte
	}{
		{[]byte{5, 1}, 2, 7}, {[]byte{5, 1}, 0, 5}, {[]byte{5, 1}, 1, 4}, {[]byte{5, 1}, 255, 250},
		{nil, 7, 0}, {[]byte{200}, 0, 200}, {[]byte{200}, 255, 200},
		{[]byte{0, 1}, 83, 83}, {[]byte{0, 0, 1}, 83, 181}, {[]byte{0, 0, 0, 1}, 2, 8},
		{[]byte{1, 2, 3}, 2, 9}, {[]byte{3, 2, 1}, 2, 3}, {[]byte{1, 2, 3}, 255, 209}, {[]byte{7, 0, 0, 9}, 16, 131},
		{bytes.Repeat([]byte{255}, 8), 255, 6}, {bytes.Repeat([]byte{255}, 8), 3, 101},
		{[]byte{0, 1, 2, 3, 4, 5, 6, 7, 8, 9, 10, 11, 12, 13, 14, 15}, 1, 0},
		{[]byte{0, 1, 2, 3, 4, 5, 6, 7, 8, 9, 10, 11, 12, 13, 14, 15}, 128, 146},
		{make([]byte, 9), 200, 0}, {[]byte{1, 0, 0, 0}, 200, 1},
		{append(make([]byte, 255), 1), 3, 1}, {append(make([]byte, 256), 1), 3, 3},
		{bytes.Repeat([]byte{1}, 255), 3, 0}, {bytes.Repeat([]byte{1}, 256), 3, 1},
	}
	for _, c := range cases {
		if got := share.Value(c.c, c.x); got != c.want {
			t.Errorf("Value of %v at %d: got %d, want %d", c.c, c.x, got, c.want)
		}
	}
}

func TestValueOfNoBytes(t *testing.T) {
	for x := range 256 {
		for _, c := range [][]byte{nil, {}, some(1, 5)[:0], withRoom(nil)} {
			if got := share.Value(c, byte(x)); got != 0 {
				t.Errorf("Value of no bytes at %d: got %d", x, got)
			}
		}
	}
}

func TestValueOfOneByte(t *testing.T) {
	for b := range 256 {
		for x := range 256 {
			if got := share.Value([]byte{byte(b)}, byte(x)); got != byte(b) {
				t.Fatalf("Value of %d at %d: got %d", b, x, got)
			}
		}
	}
}

func TestValueOfTwoBytes(t *testing.T) {
	for _, a := range []byte{0, 1, 2, 83, 128, 255} {
		for b := range 256 {
			for x := range 256 {
				want := a ^ wantMul(byte(b), byte(x))
				if got := share.Value([]byte{a, byte(b)}, byte(x)); got != want {
					t.Fatalf("Value of %d and %d at %d: got %d, want %d", a, b, x, got, want)
				}
			}
		}
	}
}

func TestValueOfManyBytes(t *testing.T) {
	for n := range 64 {
		c := some(byte(n), n)
		for x := range 256 {
			if got, want := share.Value(c, byte(x)), wantValue(c, byte(x)); got != want {
				t.Fatalf("Value of %d bytes at %d: got %d, want %d", n, x, got, want)
			}
		}
	}
}

func TestValueOfManyBytesTold(t *testing.T) {
	var values []byte
	for n := range 64 {
		for x := range 256 {
			values = append(values, share.Value(some(byte(n), n), byte(x)))
		}
	}
	sum := sha256.Sum256(values)
	if got := hex.EncodeToString(sum[:]); got != "63881193d3ce10a03c5d6851c82c71fe29c85ba1e1fc71c9b294bf6fe570a37a" {
		t.Errorf("got values of digest %s", got)
	}
}

func TestValueOfVeryManyBytes(t *testing.T) {
	told := map[int][]byte{
		255:  {148, 130, 114, 110, 13, 210, 149},
		256:  {148, 9, 249, 229, 134, 89, 30},
		1000: {148, 36, 70, 108, 165, 207, 183},
		5000: {148, 124, 20, 153, 67, 14, 46},
	}
	for n, want := range told {
		var got []byte
		for _, x := range []byte{0, 1, 2, 3, 83, 128, 255} {
			got = append(got, share.Value(some(77, n), x))
		}
		if !bytes.Equal(got, want) {
			t.Errorf("Value of %d bytes: got %v, want %v", n, got, want)
		}
	}
	long := bytes.Repeat(some(5, 1000), 1000)
	for _, x := range []byte{0, 1, 2, 254, 255} {
		if got, want := share.Value(long, x), wantValue(long, x); got != want {
			t.Errorf("Value of %d bytes at %d: got %d, want %d", len(long), x, got, want)
		}
	}
}

func TestValueAtNothingIsTheFirstByte(t *testing.T) {
	for n := 1; n < 400; n++ {
		c := some(byte(n), n)
		if got := share.Value(c, 0); got != c[0] {
			t.Errorf("Value of %d bytes at 0: got %d, want %d", n, got, c[0])
		}
	}
}

func TestValueAtOneIsTheSum(t *testing.T) {
	for n := range 400 {
		c := some(byte(n), n)
		var want byte
		for _, b := range c {
			want ^= b
		}
		if got := share.Value(c, 1); got != want {
			t.Errorf("Value of %d bytes at 1: got %d, want %d", n, got, want)
		}
	}
}

// One byte at each place by itself: byte i counts with x^i, and with no other power.
func TestValueOfOneByteAtEachPlace(t *testing.T) {
	for i := range 300 {
		for _, x := range []byte{0, 1, 2, 3, 16, 83, 128, 254, 255} {
			power := byte(1)
			for range i {
				power = wantMul(power, x)
			}
			for _, b := range []byte{1, 2, 128, 255} {
				c := append(make([]byte, i), b)
				if got, want := share.Value(c, x), wantMul(b, power); got != want {
					t.Fatalf("Value of %d at place %d at %d: got %d, want %d", b, i, x, got, want)
				}
				if got, want := share.Value(append(c, 0, 0, 0), x), wantMul(b, power); got != want {
					t.Fatalf("Value of %d at place %d, and 0 behind it, at %d: got %d, want %d", b, i, x, got, want)
				}
			}
		}
	}
}

func TestValueByTheProgramsOwnNumbers(t *testing.T) {
	c := some(9, 40)
	for x := range 256 {
		var want byte
		for i, b := range c {
			power, err := field.Pow(byte(x), i)
			if err != nil {
				t.Fatal(err)
			}
			want = field.Add(want, field.Mul(b, power))
		}
		if got := share.Value(c, byte(x)); got != want {
			t.Errorf("Value at %d: got %d, want %d", x, got, want)
		}
	}
}

func TestValueLeavesItsBytes(t *testing.T) {
	for n := range 30 {
		c := withRoom(some(3, n))
		was := slices.Clone(c[:n+5])
		for _, x := range []byte{0, 1, 2, 255} {
			if got, want := share.Value(c, x), wantValue(was[:n], x); got != want {
				t.Errorf("Value of %d bytes at %d: got %d, want %d", n, x, got, want)
			}
			if !bytes.Equal(c[:n+5], was) {
				t.Fatalf("Value of %d bytes at %d: they, or what stands behind them, were changed", n, x)
			}
		}
	}
}

// SS2: Split.

// The shares are told by a throw-away script.
func TestSplit(t *testing.T) {
	cases := []struct {
		name   string
		secret []byte
		n      int
		more   [][]byte
		want   []api.Share
	}{
		{"two more", []byte{9, 200}, 4, [][]byte{{1, 2}, {3, 4}},
			[]api.Share{of(1, 11, 206), of(2, 7, 220), of(3, 5, 218), of(4, 61, 128)}},
		{"one more", []byte{9, 200}, 3, [][]byte{{1, 2}},
			[]api.Share{of(1, 8, 202), of(2, 11, 204), of(3, 10, 206)}},
		{"three more", []byte{255, 0, 1}, 5, [][]byte{{255, 1, 0}, {128, 0, 0}, {0, 0, 254}},
			[]api.Share{of(1, 128, 1, 255), of(2, 44, 2, 176), of(3, 83, 3, 124),
				of(4, 246, 4, 254), of(5, 137, 5, 172)}},
		{"none more", []byte{9, 200}, 2, nil, []api.Share{of(1, 9, 200), of(2, 9, 200)}},
		{"one share", []byte{9, 200}, 1, [][]byte{{1, 2}, {3, 4}}, []api.Share{of(1, 11, 206)}},
	}
	for _, c := range cases {
		sameShares(t, c.name, split(t, c.secret, c.n, c.more), c.want)
	}
}

func TestSplitIntoTwenty(t *testing.T) {
	one := []byte{6, 5, 4, 3, 2, 1, 0, 15, 14, 13, 12, 11, 10, 9, 8, 23, 22, 21, 20, 19}
	twenty := []byte{6, 144, 223, 147, 109, 117, 197, 49, 115, 97, 109, 6, 187, 39, 212, 150, 132, 89, 5, 223}
	last := append(slices.Repeat([][]byte{{0}}, most-1), []byte{1})
	ss, ls := split(t, []byte{7}, most, [][]byte{{1}}), split(t, []byte{7}, most, last)
	if len(ss) != most || len(ls) != most {
		t.Fatalf("got %d shares and %d", len(ss), len(ls))
	}
	for i := range most {
		if ss[i].At != byte(i+1) || !bytes.Equal(ss[i].Data, one[i:i+1]) {
			t.Errorf("share %d, with one more: got %v", i+1, ss[i])
		}
		if ls[i].At != byte(i+1) || !bytes.Equal(ls[i].Data, twenty[i:i+1]) {
			t.Errorf("share %d, with 20 more: got %v", i+1, ls[i])
		}
	}
}

func TestSplitOfEachNumber(t *testing.T) {
	for _, size := range []int{0, 1, 2, 3, 17} {
		for n := 1; n <= most; n++ {
			for r := range most + 1 {
				secret, more := some(byte(size), size), rows(r, size)
				name := fmt.Sprintf("%d bytes into %d with %d more", size, n, r)
				sameShares(t, name, split(t, secret, n, more), wantSplit(secret, n, more))
			}
		}
	}
}

func TestSplitOfEachLength(t *testing.T) {
	for size := range longest + 1 {
		for _, n := range []int{1, 2, most} {
			for _, r := range []int{0, 1, 3, most} {
				secret, more := some(byte(size), size), rows(r, size)
				name := fmt.Sprintf("%d bytes into %d with %d more", size, n, r)
				sameShares(t, name, split(t, secret, n, more), wantSplit(secret, n, more))
			}
		}
	}
}

// The digest is told by a throw-away script.
func TestSplitTold(t *testing.T) {
	var all []byte
	for _, size := range []int{0, 1, 2, 31, 100} {
		for _, n := range []int{1, 2, 3, 19, 20} {
			for _, r := range []int{0, 1, 2, 5, 19, 20} {
				for _, s := range split(t, some(byte(size), size), n, rows(r, size)) {
					all = append(append(all, s.At, byte(len(s.Data))), s.Data...)
				}
			}
		}
	}
	sum := sha256.Sum256(all)
	if got := hex.EncodeToString(sum[:]); got != "33e9867a247fec9d5884c50193f65c310b68140d4c3fd6f2108057b58c89a529" {
		t.Errorf("got shares of digest %s", got)
	}
}

func TestSplitOfEachByte(t *testing.T) {
	for b := range 256 {
		secret, more := []byte{byte(b), 0, byte(255 - b)}, [][]byte{{0, byte(b), 1}, {byte(b), byte(b), byte(b)}}
		sameShares(t, fmt.Sprint("byte ", b), split(t, secret, most, more), wantSplit(secret, most, more))
	}
}

func TestSplitWithNoneMoreIsTheSecret(t *testing.T) {
	for _, size := range []int{0, 1, 2, 50, longest} {
		secret := some(8, size)
		for n := 1; n <= most; n++ {
			for _, more := range [][][]byte{nil, {}} {
				for i, s := range split(t, secret, n, more) {
					if int(s.At) != i+1 || !bytes.Equal(s.Data, secret) {
						t.Errorf("share %d of %d: got %d, %v", i+1, n, s.At, s.Data)
					}
				}
			}
		}
	}
}

func TestSplitOfNoBytes(t *testing.T) {
	for n := 1; n <= most; n++ {
		for r := range most + 1 {
			for _, secret := range [][]byte{nil, {}, withRoom(nil)} {
				for _, more := range [][][]byte{make([][]byte, r), slices.Repeat([][]byte{{}}, r)} {
					sameShares(t, "no bytes", split(t, secret, n, more), wantSplit(nil, n, nil))
				}
			}
		}
	}
}

func TestSplitByTheProgramsOwnValue(t *testing.T) {
	secret, more := some(1, longest), rows(most, longest)
	for k, s := range split(t, secret, most, more) {
		for i := range secret {
			c := []byte{secret[i]}
			for _, row := range more {
				c = append(c, row[i])
			}
			if want := share.Value(c, byte(k+1)); s.Data[i] != want {
				t.Fatalf("byte %d of share %d: got %d, want %d", i, k+1, s.Data[i], want)
			}
		}
	}
}

// The rows may be one list, and the secret too.
func TestSplitOfOneListManyTimes(t *testing.T) {
	b := some(6, 9)
	for r := range most + 1 {
		more := slices.Repeat([][]byte{b}, r)
		sameShares(t, "one list", split(t, b, most, more), wantSplit(some(6, 9), most, copyOf(more)))
	}
}

func TestSplitOutOfRange(t *testing.T) {
	for _, n := range outside() {
		wantNoSplit(t, fmt.Sprint(n, " shares"), some(1, 3), n, rows(2, 3), api.ErrRange)
		wantNoSplit(t, fmt.Sprint(n, " shares, none more"), some(1, 3), n, nil, api.ErrRange)
		wantNoSplit(t, fmt.Sprint(n, " shares of no bytes"), nil, n, nil, api.ErrRange)
		wantNoSplit(t, fmt.Sprint(n, " shares of 101 bytes"), some(1, 101), n, rows(2, 101), api.ErrRange)
		wantNoSplit(t, fmt.Sprint(n, " shares with 21 more"), some(1, 3), n, rows(21, 3), api.ErrRange)
		wantNoSplit(t, fmt.Sprint(n, " shares with a shorter row"), some(1, 3), n, rows(2, 2), api.ErrRange)
		wantNoSplit(t, fmt.Sprint(n, " shares, and all of it"), some(1, 101), n, rows(21, 2), api.ErrRange)
	}
}

func TestSplitOfTooMuch(t *testing.T) {
	for _, n := range []int{1, 2, most} {
		for _, size := range []int{101, 102, 200, 255, 256, 257, 356, 1 << 16, 1<<16 + 1} {
			secret := make([]byte, size)
			wantNoSplit(t, fmt.Sprint(size, " bytes"), secret, n, nil, api.ErrFull)
			wantNoSplit(t, fmt.Sprint(size, " bytes, one more"), secret, n, [][]byte{secret}, api.ErrFull)
			wantNoSplit(t, fmt.Sprint(size, " bytes, a shorter row"), secret, n, rows(1, 100), api.ErrFull)
			wantNoSplit(t, fmt.Sprint(size, " bytes, 21 more"), secret, n, rows(21, 3), api.ErrFull)
		}
		for _, r := range []int{21, 22, 40, 255, 256, 257, 276, 1000} {
			more := slices.Repeat([][]byte{{1, 2, 3}}, r)
			wantNoSplit(t, fmt.Sprint(r, " more"), some(1, 3), n, more, api.ErrFull)
			wantNoSplit(t, fmt.Sprint(r, " more, too short"), some(1, 4), n, more, api.ErrFull)
			wantNoSplit(t, fmt.Sprint(r, " more, too long"), some(1, 2), n, more, api.ErrFull)
			wantNoSplit(t, fmt.Sprint(r, " more of no bytes"), nil, n, make([][]byte, r), api.ErrFull)
			more[r-1] = nil
			wantNoSplit(t, fmt.Sprint(r, " more, the last one empty"), some(1, 3), n, more, api.ErrFull)
		}
	}
}

func TestSplitOfRowsOfAnotherLength(t *testing.T) {
	for _, size := range []int{0, 1, 2, 50, 99, longest} {
		for _, r := range []int{1, 2, 7, most} {
			for j := range r {
				for _, other := range []int{0, size - 1, size + 1, 2*size + 1, 100, 101, 256 + size, 1 << 16} {
					if other < 0 || other == size {
						continue
					}
					more := rows(r, size)
					more[j] = make([]byte, other)
					name := fmt.Sprintf("row %d of %d has %d bytes of %d", j, r, other, size)
					wantNoSplit(t, name, some(1, size), 3, more, api.ErrLength)
				}
			}
		}
	}
}

// Where one row is too short by what another one is too long, both are of another length.
func TestSplitOfRowsOfTwoOtherLengths(t *testing.T) {
	wantNoSplit(t, "shorter, longer", some(1, 3), 3, [][]byte{{1, 2}, {1, 2, 3, 4}}, api.ErrLength)
	wantNoSplit(t, "longer, shorter", some(1, 3), 3, [][]byte{{1, 2, 3, 4}, {1, 2}}, api.ErrLength)
	wantNoSplit(t, "of its own length, longer", some(1, 3), 3, [][]byte{{1, 2, 3}, {1, 2, 3, 4}}, api.ErrLength)
	wantNoSplit(t, "all alike, and longer", some(1, 3), 3, rows(3, 4), api.ErrLength)
	wantNoSplit(t, "all alike, and shorter", some(1, 3), 3, rows(3, 2), api.ErrLength)
}

// What stands behind a shorter row's bytes in its memory does not make it longer.
func TestSplitDoesNotReadBehindARow(t *testing.T) {
	wantNoSplit(t, "room behind", some(1, 3), 3, [][]byte{some(2, 3)[:2]}, api.ErrLength)
	secret, more := withRoom(some(1, 3)), [][]byte{withRoom(some(2, 3)), withRoom(some(3, 3))}
	want := wantSplit(some(1, 3), 5, [][]byte{some(2, 3), some(3, 3)})
	sameShares(t, "room behind all", split(t, secret, 5, more), want)
	sameShares(t, "room behind the rows", split(t, secret, 5, append(more, some(4, 3))[:2]), want)
}

func TestSplitLeavesWhatItIsGiven(t *testing.T) {
	for _, size := range []int{0, 1, 7, longest, 101} {
		for _, r := range []int{0, 1, 5, most, 21} {
			for _, n := range []int{0, 1, 5, most, 21} {
				secret, room := withRoom(some(1, size)), [][]byte{}
				for _, row := range append(rows(r, size), []byte{1}, nil) {
					room = append(room, withRoom(row))
				}
				more := room[:r]
				wasSecret, wasRoom := slices.Clone(secret[:size+5]), [][]byte{}
				for _, row := range room {
					wasRoom = append(wasRoom, slices.Clone(row[:len(row)+5]))
				}
				share.Split(secret, n, more)
				if !bytes.Equal(secret[:size+5], wasSecret) {
					t.Errorf("%d bytes into %d with %d more: the secret was changed", size, n, r)
				}
				for j, row := range room {
					if !bytes.Equal(row[:len(row)+5], wasRoom[j]) {
						t.Errorf("%d bytes into %d with %d more: row %d was changed", size, n, r, j)
					}
				}
			}
		}
	}
}

// Whoever writes into what was told, up to the end of its memory, changes nothing else.
func TestSplitTellsFreshMemory(t *testing.T) {
	for _, r := range []int{0, 1, 4} {
		for _, size := range []int{0, 1, 5, longest} {
			secret, more := some(1, size), rows(r, size)
			want := wantSplit(secret, most, more)
			for k := range most {
				ss := split(t, secret, most, more)
				d := ss[k].Data
				clear(d[:cap(d)])
				for i := range ss {
					if i != k {
						sameShares(t, fmt.Sprint("beside share ", k+1), ss[i:i+1], want[i:i+1])
					}
				}
				clear(ss[:cap(ss)])
				if !bytes.Equal(secret, some(1, size)) || !reflect.DeepEqual(more, rows(r, size)) {
					t.Fatal("what was handed in shares memory with what was told")
				}
				sameShares(t, "once more", split(t, secret, most, more), want)
			}
		}
	}
}

// What is written into what was handed in, when the shares are told, does not change them.
func TestSplitKeepsNothing(t *testing.T) {
	for _, r := range []int{0, 1, 4} {
		secret, more := some(1, 5), rows(r, 5)
		ss, want := split(t, secret, 6, more), wantSplit(some(1, 5), 6, rows(r, 5))
		clear(secret)
		for _, row := range more {
			clear(row)
		}
		clear(more)
		sameShares(t, "behind a change", ss, want)
	}
}

func TestSplitBehindAnError(t *testing.T) {
	want := wantSplit(some(1, 5), 6, rows(2, 5))
	for range 2 {
		wantNoSplit(t, "no shares", some(1, 5), 0, rows(2, 5), api.ErrRange)
		wantNoSplit(t, "too long", some(1, 101), 6, rows(2, 101), api.ErrFull)
		wantNoSplit(t, "another length", some(1, 5), 6, rows(2, 6), api.ErrLength)
		sameShares(t, "behind errors", split(t, some(1, 5), 6, rows(2, 5)), want)
	}
}

// Fewer tell nothing: with one row more and one share, each secret has exactly one row that makes that share.
func TestOneShareOfTwoTellsNothing(t *testing.T) {
	for _, k := range []int{1, 2, 3, most} {
		var count [256][256]int
		for b := range 256 {
			secret := []byte{byte(b)}
			for row := range 256 {
				s := split(t, secret, k, [][]byte{{byte(row)}})[k-1]
				count[b][s.Data[0]]++
			}
		}
		for b := range 256 {
			for made, times := range count[b] {
				if times != 1 {
					t.Fatalf("share %d is %d of secret %d by %d rows", k, made, b, times)
				}
			}
		}
	}
}

// Fewer tell nothing: with two rows more, each two shares and each secret have exactly one pair of rows.
func TestTwoSharesOfThreeTellNothing(t *testing.T) {
	for _, b := range []byte{0, 1, 200} {
		there := map[[2]byte]int{}
		for i := range 1 << 16 {
			ss := split(t, []byte{b}, 3, [][]byte{{byte(i)}, {byte(i >> 8)}})
			there[[2]byte{ss[0].Data[0], ss[2].Data[0]}]++
		}
		if len(there) != 1<<16 {
			t.Errorf("secret %d: shares 1 and 3 are one of %d pairs, want 65536", b, len(there))
		}
	}
}

// SS3: Join.

// The bytes are told by a throw-away script, which took differences by differences, one behind the other.
func TestJoin(t *testing.T) {
	cases := []struct {
		ss   []api.Share
		want []byte
	}{
		{[]api.Share{of(7, 42)}, []byte{42}},
		{[]api.Share{of(1, 9), of(2, 200)}, []byte{191}},
		{[]api.Share{of(255, 1, 2, 3), of(1, 4, 5, 6)}, []byte{90, 217, 88}},
		{[]api.Share{of(3, 1), of(2, 2), of(1, 3)}, []byte{0}},
		{[]api.Share{of(200, 0, 255), of(100, 255, 0), of(50, 1, 1), of(25, 128, 7)}, []byte{103, 230}},
		{[]api.Share{of(1, 0), of(2, 0), of(3, 1)}, []byte{1}},
		{[]api.Share{of(83, 17), of(202, 17)}, []byte{17}},
		{[]api.Share{of(4, 61, 128), of(1, 11, 206), of(3, 5, 218)}, []byte{9, 200}},
	}
	for _, c := range cases {
		joins(t, fmt.Sprint(c.ss), c.ss, c.want)
	}
}

// The digest is told by a throw-away script.
func TestJoinTold(t *testing.T) {
	var all []byte
	for n := 1; n <= most; n++ {
		for _, ats := range [][]byte{places(n, 1, 13), places(n, 7, 13), places(n, 100, 13), places(n, 236, 1)} {
			all = append(all, join(t, made(ats, 9))...)
		}
	}
	sum := sha256.Sum256(all)
	if got := hex.EncodeToString(sum[:]); got != "eb652ead2a7a8553bb736c58f83a65b1d079d08594d289b6da7210b783ec3618" {
		t.Errorf("got bytes of digest %s", got)
	}
}

func TestJoinOfOneShareIsItsBytes(t *testing.T) {
	for x := 1; x < 256; x++ {
		for _, size := range []int{0, 1, 2, 9, longest, 101} {
			data := some(byte(x), size)
			joins(t, fmt.Sprint("share ", x), []api.Share{{At: byte(x), Data: data}}, data)
		}
	}
	for b := range 256 {
		joins(t, fmt.Sprint("byte ", b), []api.Share{{At: 3, Data: []byte{byte(b)}}}, []byte{byte(b)})
	}
}

// All sets of 1 to 7 of 7 shares: as many as rows and one more tell the secret, fewer tell what the chapter's words tell.
func TestJoinOfEachSet(t *testing.T) {
	secret := some(1, 4)
	for r := range 7 {
		ss := split(t, secret, 7, rows(r, 4))
		for set := 1; set < 1<<7; set++ {
			var is []int
			for i := range 7 {
				if set>>i&1 == 1 {
					is = append(is, i)
				}
			}
			want := secret
			if len(is) <= r {
				want = wantJoin(t, at(ss, is...))
			}
			joins(t, fmt.Sprintf("%v of 7 with %d more", is, r), at(ss, is...), want)
		}
	}
}

// eachOrder: all orders of a list, one behind the other.
func eachOrder(is []int, tell func([]int)) {
	var from func(int)
	from = func(i int) {
		if i == len(is) {
			tell(is)
			return
		}
		for j := i; j < len(is); j++ {
			is[i], is[j] = is[j], is[i]
			from(i + 1)
			is[i], is[j] = is[j], is[i]
		}
	}
	from(0)
}

func TestJoinInEachOrder(t *testing.T) {
	secret := some(2, 3)
	for r := range 6 {
		ss := split(t, secret, 6, rows(r, 3))
		eachOrder([]int{0, 1, 2, 3, 4, 5}, func(is []int) {
			joins(t, fmt.Sprintf("%v with %d more", is, r), at(ss, is[:r+1]...), secret)
			joins(t, fmt.Sprintf("all: %v with %d more", is, r), at(ss, is...), secret)
		})
	}
}

func TestJoinOfFewerInEachOrder(t *testing.T) {
	ss := split(t, some(2, 3), 6, rows(5, 3))
	want := wantJoin(t, at(ss, 1, 2, 3, 4, 5))
	if bytes.Equal(want, some(2, 3)) {
		t.Fatal("five of six that are needed tell the secret")
	}
	eachOrder([]int{1, 2, 3, 4, 5}, func(is []int) { joins(t, fmt.Sprint(is), at(ss, is...), want) })
}

// From as many as were taken as rows, and one more, up to all 20: first ones, last ones, and some in another order.
func TestJoinOfAsManyAsNeeded(t *testing.T) {
	for _, size := range []int{1, 33, longest} {
		secret := some(byte(size), size)
		for r := range most {
			ss := split(t, secret, most, rows(r, size))
			turned := slices.Clone(ss)
			slices.Reverse(turned)
			for m := r + 1; m <= most; m++ {
				joins(t, fmt.Sprintf("the first %d with %d more", m, r), ss[:m], secret)
				joins(t, fmt.Sprintf("the last %d with %d more", m, r), ss[most-m:], secret)
				joins(t, fmt.Sprintf("%d from the end with %d more", m, r), turned[:m], secret)
			}
			for first := range most {
				var is []int
				for i := range r + 1 {
					is = append(is, (first+7*i)%most)
				}
				joins(t, fmt.Sprintf("%v with %d more", is, r), at(ss, is...), secret)
			}
		}
	}
}

func TestJoinOfFewer(t *testing.T) {
	secret := some(40, 12)
	for r := 1; r <= most; r++ {
		ss := split(t, secret, most, rows(r, 12))
		for m := 1; m <= r; m++ {
			first, last := wantJoin(t, ss[:m]), wantJoin(t, ss[most-m:])
			joins(t, fmt.Sprintf("the first %d with %d more", m, r), ss[:m], first)
			joins(t, fmt.Sprintf("the last %d with %d more", m, r), ss[most-m:], last)
			if bytes.Equal(first, secret) || bytes.Equal(last, secret) {
				t.Errorf("%d shares with %d more tell the secret", m, r)
			}
		}
	}
}

// With rows of which the last ones are 0 fewer are enough: the degree is what counts, not how many rows there were.
func TestJoinOfRowsOfNothing(t *testing.T) {
	secret := some(41, 5)
	more := append(rows(2, 5), slices.Repeat([][]byte{make([]byte, 5)}, most-2)...)
	ss := split(t, secret, most, more)
	joins(t, "three", at(ss, 19, 0, 7), secret)
	joins(t, "all", ss, secret)
}

func TestJoinOfEachByte(t *testing.T) {
	for b := range 256 {
		secret := []byte{byte(b), byte(255 - b), byte(b)}
		ss := split(t, secret, 5, [][]byte{{byte(b), 0, 1}, {0, byte(b), byte(b)}})
		joins(t, fmt.Sprint("byte ", b), at(ss, 4, 1, 2), secret)
	}
}

// Two shares of all pairs of places: the value at 0 of the line through both, whose rise is what both differ by.
func TestJoinOfEachTwoPlaces(t *testing.T) {
	for x := 1; x < 256; x++ {
		for y := 1; y < 256; y++ {
			if x == y {
				continue
			}
			a, b := some(byte(x), 2), some(byte(y), 2)
			var want []byte
			for i := range a {
				rise := wantMul(a[i]^b[i], wantInv(byte(x^y)))
				want = append(want, a[i]^wantMul(rise, byte(x)))
			}
			joins(t, fmt.Sprint("places ", x, " and ", y), []api.Share{of(byte(x), a...), of(byte(y), b...)}, want)
		}
	}
}

func TestJoinOfSharesThatNoSplitMade(t *testing.T) {
	for n := 1; n <= most; n++ {
		for _, size := range []int{0, 1, 2, 6} {
			for _, first := range []int{1, 2, 21, 128, 236, 255} {
				for _, on := range []int{1, 2, 7, 13, 254} {
					ss := made(places(n, first, on), size)
					joins(t, fmt.Sprintf("%d from %d on by %d", n, first, on), ss, wantJoin(t, ss))
				}
			}
		}
	}
}

func TestJoinOfLongShares(t *testing.T) {
	for _, size := range []int{longest, 101, 255, 256, 257, 1000} {
		for _, n := range []int{1, 2, 3, most} {
			ss := made(places(n, 250, 13), size)
			joins(t, fmt.Sprintf("%d of %d bytes", n, size), ss, wantJoin(t, ss))
		}
	}
}

// All shares alike are of degree 0, and one that alone is not 0 counts with its own weight.
func TestJoinOfSharesAlikeAndOfOneAlone(t *testing.T) {
	for n := 1; n <= most; n++ {
		ats := places(n, 240, 1)
		var alike, none []api.Share
		for _, x := range ats {
			alike = append(alike, api.Share{At: x, Data: []byte{0, 1, 83, 255}})
			none = append(none, api.Share{At: x, Data: []byte{0, 0}})
		}
		joins(t, fmt.Sprint(n, " alike"), alike, []byte{0, 1, 83, 255})
		joins(t, fmt.Sprint(n, " of nothing"), none, []byte{0, 0})
		for k := range n {
			one := copyOfShares(none)
			one[k].Data[1] = 77
			joins(t, fmt.Sprintf("one of %d, the one at %d", n, ats[k]), one, wantJoin(t, one))
		}
	}
}

func TestJoinOfNoBytes(t *testing.T) {
	for n := 1; n <= most; n++ {
		var ss []api.Share
		for i, x := range places(n, 3, 7) {
			ss = append(ss, api.Share{At: x, Data: [][]byte{nil, {}, withRoom(nil)}[i%3]})
		}
		joins(t, fmt.Sprint(n, " of no bytes"), ss, nil)
	}
}

// Shares of Value at any places, 0 not among them.
func TestJoinTellsWhatValueHas(t *testing.T) {
	for r := range most {
		c := some(byte(r), r+1)
		var ss []api.Share
		for _, x := range places(r+1, 30, 19) {
			ss = append(ss, api.Share{At: x, Data: []byte{share.Value(c, x)}})
		}
		joins(t, fmt.Sprint(r+1, " bytes"), ss, []byte{share.Value(c, 0)})
	}
}

func TestJoinOfNone(t *testing.T) {
	wantNoJoin(t, "nil", nil, api.ErrRange)
	wantNoJoin(t, "empty", []api.Share{}, api.ErrRange)
	wantNoJoin(t, "room behind", made(places(3, 1, 1), 2)[:0], api.ErrRange)
}

func TestJoinOfTooMany(t *testing.T) {
	for _, n := range []int{21, 22, 40, 100, 254, 255} {
		wantNoJoin(t, fmt.Sprint(n), made(places(n, 1, 1), 2), api.ErrRange)
		wantNoJoin(t, fmt.Sprint(n, " of no bytes"), made(places(n, 1, 1), 0), api.ErrRange)
	}
	for _, n := range []int{21, 256, 257, 276, 1000} {
		wantNoJoin(t, fmt.Sprint(n, " alike"), slices.Repeat(made([]byte{1}, 2), n), api.ErrRange)
	}
	long := made(places(21, 1, 1), 2)
	long[1].Data = []byte{1}
	wantNoJoin(t, "21, one shorter", long, api.ErrRange)
	joins(t, "20 of them", append(long[:1:1], long[2:]...), wantJoin(t, append(long[:1:1], long[2:]...)))
}

func TestJoinAtNothing(t *testing.T) {
	for n := 1; n <= most; n++ {
		for k := range n {
			ss := made(places(n, 9, 11), 2)
			ss[k].At = 0
			wantNoJoin(t, fmt.Sprintf("share %d of %d at 0", k, n), ss, api.ErrRange)
			ss[k].Data = nil
			wantNoJoin(t, fmt.Sprintf("share %d of %d at 0, and of no bytes", k, n), ss, api.ErrRange)
		}
	}
}

func TestJoinOfOneTwice(t *testing.T) {
	for n := 2; n <= most; n++ {
		for k := range n {
			for i := range k {
				ss := made(places(n, 9, 11), 2)
				ss[k].At = ss[i].At
				wantNoJoin(t, fmt.Sprintf("shares %d and %d of %d", i, k, n), ss, api.ErrTwice)
				ss[k].Data = ss[i].Data
				wantNoJoin(t, fmt.Sprintf("shares %d and %d of %d, all alike", i, k, n), ss, api.ErrTwice)
				ss[k].Data = []byte{1, 2, 3}
				wantNoJoin(t, fmt.Sprintf("shares %d and %d of %d, the later one longer", i, k, n), ss, api.ErrTwice)
			}
		}
	}
}

func TestJoinOfAnotherLength(t *testing.T) {
	for n := 2; n <= most; n++ {
		for k := range n {
			for _, size := range []int{0, 1, 5} {
				for _, other := range []int{0, 1, 4, 5, 6, 256 + size} {
					if other == size {
						continue
					}
					ss := made(places(n, 9, 11), size)
					ss[k].Data = make([]byte, other)
					name := fmt.Sprintf("share %d of %d of %d bytes, the others of %d", k, n, other, size)
					wantNoJoin(t, name, ss, api.ErrLength)
				}
			}
		}
	}
}

// What stands behind a shorter share's bytes in its memory does not make it longer.
func TestJoinDoesNotReadBehindAShare(t *testing.T) {
	ss := made(places(3, 9, 11), 4)
	ss[2].Data = ss[2].Data[:3]
	wantNoJoin(t, "a shorter one", ss, api.ErrLength)
	ss[0].Data, ss[1].Data = ss[0].Data[:3], ss[1].Data[:3]
	joins(t, "all shorter", ss, wantJoin(t, copyOfShares(ss)))
	joins(t, "two of three", ss[:2], wantJoin(t, copyOfShares(ss[:2])))
}

// Several things wrong: all of one share comes ahead of all of the next.
func TestJoinOneByOne(t *testing.T) {
	cases := []struct {
		name string
		ss   []api.Share
		want api.Errno
	}{
		{"twice, then at 0", []api.Share{of(1, 1), of(1, 1), of(0, 1)}, api.ErrTwice},
		{"at 0, then twice", []api.Share{of(1, 1), of(0, 1), of(1, 1)}, api.ErrRange},
		{"shorter, then at 0", []api.Share{of(1, 1), of(2), of(0, 1)}, api.ErrLength},
		{"shorter, then twice", []api.Share{of(1, 1), of(2), of(1, 1)}, api.ErrLength},
		{"twice, then shorter", []api.Share{of(1, 1), of(1, 1), of(2)}, api.ErrTwice},
		{"at 0, then shorter", []api.Share{of(1, 1), of(0, 1), of(2)}, api.ErrRange},
		{"at 0 and shorter in one", []api.Share{of(1, 1), of(0)}, api.ErrRange},
		{"twice and shorter in one", []api.Share{of(1, 1), of(1)}, api.ErrTwice},
		{"at 0 twice", []api.Share{of(0, 1), of(0, 1)}, api.ErrRange},
		{"the first one at 0, all others longer", []api.Share{of(0), of(1, 1), of(1, 1)}, api.ErrRange},
		{"longer, then twice at its own", []api.Share{of(1), of(2, 1), of(2, 1)}, api.ErrLength},
		{"twice, not the first one", []api.Share{of(1, 1), of(2, 1), of(2, 1)}, api.ErrTwice},
	}
	for _, c := range cases {
		wantNoJoin(t, c.name, c.ss, c.want)
	}
}

// All lists of 1 to 4 shares at 0 to 3, of no, one or two bytes.
func TestJoinOfEachList(t *testing.T) {
	for n := 1; n <= 4; n++ {
		all := 1
		for range n {
			all *= 12
		}
		for list := range all {
			var ss []api.Share
			for left := list; len(ss) < n; left /= 12 {
				ss = append(ss, api.Share{At: byte(left % 4), Data: some(byte(len(ss)), left/4%3)})
			}
			if want := wantWrong(ss); want != api.OK {
				wantNoJoin(t, fmt.Sprint(ss), ss, want)
				continue
			}
			joins(t, fmt.Sprint(ss), ss, wantJoin(t, ss))
		}
	}
}

func TestJoinLeavesWhatItIsGiven(t *testing.T) {
	for n := range 22 {
		for wrong := range 4 {
			var room, was []api.Share
			for _, s := range made(places(n+2, 9, 11), 5) {
				room = append(room, api.Share{At: s.At, Data: withRoom(s.Data)})
			}
			ss := room[:n]
			if n > 1 {
				ss[n-1].At = []byte{ss[n-1].At, 0, ss[0].At, ss[n-1].At}[wrong]
				ss[n-1].Data = ss[n-1].Data[:[]int{5, 5, 5, 4}[wrong]]
			}
			for _, s := range room {
				was = append(was, api.Share{At: s.At, Data: slices.Clone(s.Data[:10])})
			}
			share.Join(ss)
			for i, s := range room {
				if s.At != was[i].At || !bytes.Equal(s.Data[:10], was[i].Data) {
					t.Errorf("Join of %d shares: share %d was changed", n, i)
				}
			}
		}
	}
}

// Whoever writes into what was told, up to the end of its memory, changes nothing else; nor is it changed later.
func TestJoinTellsFreshMemory(t *testing.T) {
	for n := 1; n <= most; n++ {
		ss := made(places(n, 9, 11), 5)
		was, want := copyOfShares(ss), wantJoin(t, ss)
		b := join(t, ss)
		clear(b[:cap(b)])
		sameShares(t, "what was handed in", ss, was)
		b = join(t, ss)
		for i := range ss {
			clear(ss[i].Data)
		}
		clear(ss)
		if !bytes.Equal(b, want) {
			t.Errorf("Join of %d: got %v behind a change, want %v", n, b, want)
		}
		joins(t, "once more", was, want)
	}
}

// Shares may have one list of bytes: they are alike then.
func TestJoinOfOneListManyTimes(t *testing.T) {
	b := some(6, 9)
	for n := 1; n <= most; n++ {
		var ss []api.Share
		for _, x := range places(n, 9, 11) {
			ss = append(ss, api.Share{At: x, Data: b})
		}
		joins(t, fmt.Sprint(n, " of one list"), ss, some(6, 9))
	}
}

func TestJoinBehindAnError(t *testing.T) {
	ss := made(places(4, 9, 11), 3)
	want := wantJoin(t, ss)
	for range 2 {
		wantNoJoin(t, "none", nil, api.ErrRange)
		wantNoJoin(t, "twice", append(ss[:4:4], ss[0]), api.ErrTwice)
		wantNoJoin(t, "another length", append(ss[:4:4], api.Share{At: 1}), api.ErrLength)
		joins(t, "behind errors", ss, want)
	}
}

// What packages further down ask of shares: their values at other places than 0, and what is wrong with them.

func TestAtOfEachPlace(t *testing.T) {
	for _, n := range []int{1, 2, 3, 7, most} {
		ss := made(places(n, 250, 13), 3)
		for x := range 256 {
			var want []byte
			for i := range 3 {
				var ats, values []byte
				for _, s := range ss {
					ats, values = append(ats, s.At), append(values, s.Data[i])
				}
				want = append(want, wantValue(wantPolynomial(ats, values), byte(x)))
			}
			if got := share.At(ss, byte(x)); !bytes.Equal(got, want) {
				t.Fatalf("At %d of %d: got %v, want %v", x, n, got, want)
			}
		}
	}
}

func TestAtWhereAShareStands(t *testing.T) {
	ss := made(places(most, 0, 13), 6)
	for _, s := range ss {
		b := share.At(ss, s.At)
		if !bytes.Equal(b, s.Data) {
			t.Errorf("At %d: got %v, want %v", s.At, b, s.Data)
		}
		clear(b[:cap(b)])
	}
	sameShares(t, "what was handed in", ss, made(places(most, 0, 13), 6))
}

func TestCheckOfPlaces(t *testing.T) {
	for x := range 256 {
		for _, bounds := range [][2]byte{{0, 255}, {1, 255}, {0, 19}, {0, 0}, {255, 255}, {7, 8}} {
			var want api.Errno
			if byte(x) < bounds[0] || byte(x) > bounds[1] {
				want = api.ErrRange
			}
			if err := share.Check([]api.Share{of(byte(x), 1)}, bounds[0], bounds[1]); plain.Told(err) != want {
				t.Errorf("Check of a share at %d, from %v: got %v, want %v", x, bounds, err, want)
			}
		}
	}
	if err := share.Check(nil, 1, 255); err != nil {
		t.Errorf("Check of none: got %v", err)
	}
}
