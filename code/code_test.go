package code_test

import (
	"bytes"
	"crypto/sha256"
	"encoding/hex"
	"fmt"
	"math"
	"reflect"
	"slices"
	"sync"
	"testing"

	"oathbook/api"
	"oathbook/code"
	"oathbook/field"
	"oathbook/plain"
	"oathbook/share"
)

// most: so many rows there may be.
const most = 20

// longest: so many bytes a row that is spread may have.
const longest = 100

// some: n bytes without an order, others for each seed.
func some(seed byte, n int) []byte {
	b := []byte{}
	for i := range n {
		sum := sha256.Sum256([]byte{seed, byte(i), byte(i >> 8)})
		b = append(b, sum[0])
	}
	return b
}

// rowsOf: n rows of so many bytes without an order.
func rowsOf(n, size int) [][]byte {
	rows := [][]byte{}
	for j := range n {
		rows = append(rows, some(byte(100+j), size))
	}
	return rows
}

// places: n places of which no two are alike: the first one, and so many on each time, from 19 to 0.
func places(n, first, on int) []byte {
	ats := []byte{}
	for i := range n {
		ats = append(ats, byte((first+i*on)%most))
	}
	return ats
}

// made: shares that no Spread made: at each place so many bytes without an order.
func made(ats []byte, size int) []api.Share {
	ss := []api.Share{}
	for _, at := range ats {
		ss = append(ss, api.Share{At: at, Data: some(at, size)})
	}
	return ss
}

// sharesOf: rows, each with its place.
func sharesOf(rows [][]byte) []api.Share {
	ss := []api.Share{}
	for i, row := range rows {
		ss = append(ss, api.Share{At: byte(i), Data: row})
	}
	return ss
}

// at: those shares of a list that stand at these places of it.
func at(ss []api.Share, is ...int) []api.Share {
	these := []api.Share{}
	for _, i := range is {
		these = append(these, ss[i])
	}
	return these
}

// of: a share of these bytes.
func of(at byte, data ...byte) api.Share { return api.Share{At: at, Data: data} }

// copyOf: a list of rows, with memory of its own.
func copyOf(rows [][]byte) [][]byte {
	var c [][]byte
	for _, row := range rows {
		c = append(c, slices.Clone(row))
	}
	return c
}

// copyOfShares: a list of shares, with memory of its own.
func copyOfShares(ss []api.Share) []api.Share {
	var c []api.Share
	for _, s := range ss {
		c = append(c, api.Share{At: s.At, Data: slices.Clone(s.Data)})
	}
	return c
}

// withRoom: the same bytes, with room behind them in which stands what is nobody's.
func withRoom(b []byte) []byte {
	room := append(slices.Clone(b), 171, 205, 239, 1, 35)
	return room[:len(b)]
}

// outside: numbers of rows that are out of range, however many rows there are.
func outside() []int {
	return []int{0, -1, -2, -20, -21, -255, -256, -1 << 32, -1<<32 + 1, math.MinInt, math.MinInt + 1, math.MinInt + 20,
		21, 22, 40, 100, 255, 256, 257, 276, 1 << 16, 1 << 31, 1 << 32, 1<<32 + 1, 1<<32 + 20, 1 << 62, math.MaxInt - 1, math.MaxInt}
}

// products: the products of all pairs of bytes by the words of chapter 12: the product of both as lists of
// 0 and 1, then less x^8 + x^4 + x^3 + x + 1 (taken up as needed) where a power of 8 or more has 1.
var products = sync.OnceValue(func() *[256][256]byte {
	var all [256][256]byte
	for a := range 256 {
		for b := range 256 {
			p := 0
			for i := range 8 {
				if b>>i&1 == 1 {
					p ^= a << i
				}
			}
			for i := 14; i >= 8; i-- {
				if p>>i&1 == 1 {
					p ^= 0b100011011 << (i - 8)
				}
			}
			all[a][b] = byte(p)
		}
	}
	return &all
})

// wantMul: the product of two bytes.
func wantMul(a, b byte) byte { return products()[a][b] }

// wantInv: the byte whose product with a is 1, looked for among all.
func wantInv(a byte) byte {
	return byte(slices.Index(products()[a][:], 1))
}

// wantValue: c0 + c1 x + c2 x^2 and so on, each power by itself.
func wantValue(c []byte, x byte) byte {
	value, power := byte(0), byte(1)
	for _, b := range c {
		value ^= wantMul(b, power)
		power = wantMul(power, x)
	}
	return value
}

// wantPolynomial: the polynomial, of as many bytes as there are places, that has these values there: one
// equation a place, of which one unknown byte behind the other is put away. There is no other one, and so
// that of least degree is it, without the bytes 0 at its end.
func wantPolynomial(ats, values []byte) []byte {
	n := len(ats)
	lines := make([][]byte, n)
	for i, x := range ats {
		power := byte(1)
		for range n {
			lines[i] = append(lines[i], power)
			power = wantMul(power, x)
		}
		lines[i] = append(lines[i], values[i])
	}
	for i := range n {
		first := i + slices.IndexFunc(lines[i:], func(line []byte) bool { return line[i] != 0 })
		lines[i], lines[first] = lines[first], lines[i]
		back := wantInv(lines[i][i])
		for k := range lines[i] {
			lines[i][k] = wantMul(lines[i][k], back)
		}
		for j := range n {
			if times := lines[j][i]; j != i && times != 0 {
				for k := range lines[j] {
					lines[j][k] ^= wantMul(times, lines[i][k])
				}
			}
		}
	}
	c := []byte{}
	for _, line := range lines {
		c = append(c, line[n])
	}
	return c
}

// wantRows: n rows, from 0 on: at each place of them the values of the polynomial that has what the shares have.
func wantRows(t *testing.T, ss []api.Share, n int) [][]byte {
	t.Helper()
	rows := make([][]byte, n)
	for i := range ss[0].Data {
		var ats, values []byte
		for _, s := range ss {
			ats, values = append(ats, s.At), append(values, s.Data[i])
		}
		c := wantPolynomial(ats, values)
		for j, x := range ats {
			if wantValue(c, x) != values[j] {
				t.Fatalf("the test itself is wrong: of %v at %v it makes %v", values, ats, c)
			}
		}
		for j := range rows {
			rows[j] = append(rows[j], wantValue(c, byte(j)))
		}
	}
	return rows
}

// wantSpread: the first rows are these, and each one behind them has the values of the polynomial of these.
func wantSpread(t *testing.T, rows [][]byte, n int) [][]byte {
	t.Helper()
	all := wantRows(t, sharesOf(rows), n)
	return append(copyOf(rows), all[len(rows):]...)
}

// wantWrongSpread: what is wrong with rows that are to be spread, by the chapter's words.
func wantWrongSpread(rows [][]byte, n int) api.Errno {
	switch {
	case len(rows) == 0, n < len(rows), n > most:
		return api.ErrRange
	case len(rows[0]) > longest:
		return api.ErrFull
	}
	for _, row := range rows {
		if len(row) != len(rows[0]) {
			return api.ErrLength
		}
	}
	return api.OK
}

// wantWrongGather: what is wrong with shares that are to be gathered, by the chapter's words.
func wantWrongGather(ss []api.Share, k int) api.Errno {
	if k < 1 || k > most {
		return api.ErrRange
	}
	if len(ss) < k {
		return api.ErrLength
	}
	var there [256]int
	for _, s := range ss[:k] {
		if s.At >= most {
			return api.ErrRange
		}
		if there[s.At]++; there[s.At] > 1 {
			return api.ErrTwice
		}
		if len(s.Data) != len(ss[0].Data) {
			return api.ErrLength
		}
	}
	return api.OK
}

// spread: Spread where nothing is wrong.
func spread(t *testing.T, rows [][]byte, n int) [][]byte {
	t.Helper()
	all, err := code.Spread(rows, n)
	if err != nil {
		t.Fatalf("Spread of %d rows into %d: %v", len(rows), n, err)
	}
	return all
}

// gather: Gather where nothing is wrong.
func gather(t *testing.T, ss []api.Share, k int) [][]byte {
	t.Helper()
	rows, err := code.Gather(ss, k)
	if err != nil {
		t.Fatalf("Gather of %d rows of %d shares: %v", k, len(ss), err)
	}
	return rows
}

// same: asks whether rows are as they should be.
func same(t *testing.T, name string, got, want [][]byte) {
	t.Helper()
	if len(got) != len(want) {
		t.Fatalf("%s: got %d rows, want %d", name, len(got), len(want))
	}
	for i := range got {
		if !bytes.Equal(got[i], want[i]) {
			t.Fatalf("%s: got row %d of bytes %v, want %v", name, i, got[i], want[i])
		}
	}
}

// sameShares: asks whether shares are as they should be.
func sameShares(t *testing.T, name string, got, want []api.Share) {
	t.Helper()
	if len(got) != len(want) {
		t.Fatalf("%s: got %d shares, want %d", name, len(got), len(want))
	}
	for i := range got {
		if got[i].At != want[i].At || !bytes.Equal(got[i].Data, want[i].Data) {
			t.Fatalf("%s: got share %d of bytes %v, want share %d of bytes %v",
				name, got[i].At, got[i].Data, want[i].At, want[i].Data)
		}
	}
}

// spreads: asks whether Spread tells these rows.
func spreads(t *testing.T, name string, rows [][]byte, n int, want [][]byte) {
	t.Helper()
	same(t, name, spread(t, rows, n), want)
}

// gathers: asks whether Gather tells these rows.
func gathers(t *testing.T, name string, ss []api.Share, k int, want [][]byte) {
	t.Helper()
	same(t, name, gather(t, ss, k), want)
}

// wantNoSpread: asks whether Spread tells this error and nothing beside it; if not, it asks no more, as
// a greater number of rows that is not refused would ask for more memory than there may be.
func wantNoSpread(t *testing.T, name string, rows [][]byte, n int, want api.Errno) {
	t.Helper()
	all, err := code.Spread(rows, n)
	if len(all) != 0 || plain.Told(err) != want {
		t.Fatalf("%s: got %d rows and %v, want %v", name, len(all), err, want)
	}
}

// wantNoGather: asks whether Gather tells this error and nothing beside it.
func wantNoGather(t *testing.T, name string, ss []api.Share, k int, want api.Errno) {
	t.Helper()
	rows, err := code.Gather(ss, k)
	if len(rows) != 0 || plain.Told(err) != want {
		t.Errorf("%s: got %d rows and %v, want %v", name, len(rows), err, want)
	}
}

// eachOrder: all orders of a list, one behind the other.
func eachOrder(is []int, tell func([]int)) {
	var from func(int)
	from = func(i int) {
		if i == len(is) {
			tell(is)
			return
		}
		for j := i; j < len(is); j++ {
			is[i], is[j] = is[j], is[i]
			from(i + 1)
			is[i], is[j] = is[j], is[i]
		}
	}
	from(0)
}

// CE1: Spread.

// The rows are told by a throw-away script, which took its products from a table of the powers of 3, and the
// polynomials by Newton's differences.
func TestSpread(t *testing.T) {
	cases := []struct {
		rows [][]byte
		want [][]byte
	}{
		{[][]byte{{1, 2}, {3, 4}}, [][]byte{{1, 2}, {3, 4}, {5, 14}, {7, 8}}},
		{[][]byte{{5}}, [][]byte{{5}, {5}, {5}, {5}}},
		{[][]byte{{7}, {7}, {8}}, [][]byte{{7}, {7}, {8}, {8}, {37}, {37}, {42}, {42}}},
		{[][]byte{{255, 0, 1}, {0, 255, 2}, {128, 1, 3}, {9, 9, 4}},
			[][]byte{{255, 0, 1}, {0, 255, 2}, {128, 1, 3}, {9, 9, 4}, {189, 167, 69}, {109, 92, 94}}},
		{[][]byte{{0}, {1}, {0}, {0}, {0}}, [][]byte{{0}, {1}, {0}, {0}, {0}, {7}, {8}, {14}, {123}}},
	}
	for _, c := range cases {
		spreads(t, fmt.Sprint(c.rows), c.rows, len(c.want), c.want)
	}
}

// That row x is x, or x taken with itself, is a polynomial that one sees: more rows of it tell no more.
func TestSpreadOfAPolynomialThatOneSees(t *testing.T) {
	var line, square [][]byte
	for x := range most {
		line = append(line, []byte{byte(x)})
		square = append(square, []byte{byte(x), wantMul(byte(x), byte(x))})
	}
	for m := 2; m <= most; m++ {
		spreads(t, fmt.Sprint("a line of ", m), line[:m], most, line)
	}
	for m := 3; m <= most; m++ {
		spreads(t, fmt.Sprint("a square of ", m), square[:m], most, square)
	}
}

// Rows of Value tell what Value has at each place behind them.
func TestSpreadTellsWhatValueHas(t *testing.T) {
	for m := 1; m <= most; m++ {
		a, b := some(byte(m), m), some(byte(m+50), m)
		var all [][]byte
		for x := range most {
			all = append(all, []byte{share.Value(a, byte(x)), share.Value(b, byte(x))})
		}
		spreads(t, fmt.Sprint("polynomials of ", m, " bytes"), all[:m], most, all)
	}
}

func TestSpreadOfEachNumber(t *testing.T) {
	for m := 1; m <= most; m++ {
		for _, size := range []int{0, 1, 2, 7, longest - 1, longest} {
			rows := rowsOf(m, size)
			want := wantSpread(t, rows, most)
			for n := m; n <= most; n++ {
				spreads(t, fmt.Sprintf("%d rows of %d bytes into %d", m, size, n), rows, n, want[:n])
			}
		}
	}
}

func TestSpreadOfEachNumberTold(t *testing.T) {
	h := sha256.New()
	for m := 1; m <= most; m++ {
		for n := m; n <= most; n++ {
			for _, size := range []int{0, 1, 2, 7, longest} {
				for _, row := range spread(t, rowsOf(m, size), n) {
					h.Write(row)
				}
			}
		}
	}
	if got := hex.EncodeToString(h.Sum(nil)); got != "63ba6f31e67989586ae7e5baf1beaa3247b59d24a297cecb1c77657e1bac5b1b" {
		t.Errorf("got rows of digest %s", got)
	}
}

func TestSpreadOfEachLength(t *testing.T) {
	for size := range longest + 1 {
		for _, m := range []int{1, 2, 3, 13} {
			rows := rowsOf(m, size)
			spreads(t, fmt.Sprintf("%d rows of %d bytes", m, size), rows, most, wantSpread(t, rows, most))
		}
	}
}

func TestSpreadOfOneRow(t *testing.T) {
	for n := 1; n <= most; n++ {
		for b := range 256 {
			row := []byte{byte(b), 0, byte(255 - b)}
			spreads(t, fmt.Sprint("byte ", b), [][]byte{row}, n, slices.Repeat([][]byte{row}, n))
		}
	}
}

// Two rows of each two bytes: the line through both, whose rise is what both differ by.
func TestSpreadOfEachTwoBytes(t *testing.T) {
	for a := range 256 {
		for b := range 256 {
			var want [][]byte
			for x := range most {
				want = append(want, []byte{byte(a) ^ wantMul(byte(a^b), byte(x))})
			}
			spreads(t, fmt.Sprint(a, " and ", b), [][]byte{{byte(a)}, {byte(b)}}, most, want)
		}
	}
}

// Rows of one digit 1 at each place, and of each byte there: the weight of each row at each place.
func TestSpreadOfOneRowThatCounts(t *testing.T) {
	for m := 1; m <= most; m++ {
		for k := range m {
			rows := slices.Repeat([][]byte{{0, 0, 0}}, m)
			rows[k] = []byte{1, 77, 255}
			spreads(t, fmt.Sprintf("row %d of %d", k, m), rows, most, wantSpread(t, rows, most))
		}
	}
}

func TestSpreadOfRowsAlike(t *testing.T) {
	for m := 1; m <= most; m++ {
		row := some(9, 4)
		rows := slices.Repeat([][]byte{row}, m)
		spreads(t, fmt.Sprint(m, " of one list"), rows, most, slices.Repeat([][]byte{some(9, 4)}, most))
	}
}

// What is spread, and spread again from any number of its first rows that is enough, stays as it is.
func TestSpreadOfWhatWasSpread(t *testing.T) {
	for m := 1; m <= most; m++ {
		all := spread(t, rowsOf(m, 3), most)
		for again := m; again <= most; again++ {
			spreads(t, fmt.Sprintf("%d rows, then %d", m, again), all[:again], most, all)
		}
	}
}

func TestSpreadOfNoBytes(t *testing.T) {
	for m := 1; m <= most; m++ {
		var rows [][]byte
		for i := range m {
			rows = append(rows, [][]byte{nil, {}, withRoom(nil)}[i%3])
		}
		for n := m; n <= most; n++ {
			spreads(t, fmt.Sprintf("%d rows into %d", m, n), rows, n, make([][]byte, n))
		}
	}
}

// A sum of rows is spread into the sum of what each is spread into.
func TestSpreadOfASum(t *testing.T) {
	sum := func(a, b [][]byte) [][]byte {
		c := copyOf(a)
		for i := range c {
			for j := range c[i] {
				c[i][j] = field.Add(a[i][j], b[i][j])
			}
		}
		return c
	}
	for m := 1; m <= most; m++ {
		a := rowsOf(m, 5)
		b := copyOf(a)
		slices.Reverse(b)
		spreads(t, fmt.Sprint(m), sum(a, b), most, sum(spread(t, a, most), spread(t, b, most)))
	}
}

func TestSpreadOfNoRows(t *testing.T) {
	for _, n := range append(outside(), 1, 2, 19, 20) {
		wantNoSpread(t, fmt.Sprint("nil into ", n), nil, n, api.ErrRange)
		wantNoSpread(t, fmt.Sprint("empty into ", n), [][]byte{}, n, api.ErrRange)
		wantNoSpread(t, fmt.Sprint("room behind, into ", n), rowsOf(3, 2)[:0], n, api.ErrRange)
	}
}

func TestSpreadOutOfRange(t *testing.T) {
	for m := 1; m <= most; m++ {
		rows, long, uneven := rowsOf(m, 3), rowsOf(m, longest+1), append(rowsOf(m-1, 3), some(1, 4))
		longAndUneven := append(rowsOf(m-1, longest+1), nil)
		for _, n := range outside() {
			wantNoSpread(t, fmt.Sprintf("%d into %d", m, n), rows, n, api.ErrRange)
			wantNoSpread(t, fmt.Sprintf("%d too long into %d", m, n), long, n, api.ErrRange)
			wantNoSpread(t, fmt.Sprintf("%d of which one is longer into %d", m, n), uneven, n, api.ErrRange)
			wantNoSpread(t, fmt.Sprintf("%d too long and one shorter into %d", m, n), longAndUneven, n, api.ErrRange)
		}
	}
}

func TestSpreadIntoFewer(t *testing.T) {
	for m := 2; m <= most; m++ {
		for n := range m {
			wantNoSpread(t, fmt.Sprintf("%d into %d", m, n), rowsOf(m, 3), n, api.ErrRange)
			wantNoSpread(t, fmt.Sprintf("%d too long into %d", m, n), rowsOf(m, longest+1), n, api.ErrRange)
			wantNoSpread(t, fmt.Sprintf("%d of which one is shorter into %d", m, n), append(rowsOf(m-1, 3), some(1, 2)), n, api.ErrRange)
			wantNoSpread(t, fmt.Sprintf("%d too long and one shorter into %d", m, n), append(rowsOf(m-1, longest+1), nil), n, api.ErrRange)
		}
	}
}

// More rows than there may be: n is less than there are, or above what may be.
func TestSpreadOfTooManyRows(t *testing.T) {
	for _, m := range []int{21, 22, 40, 255, 256, 257, 276, 1000} {
		for _, n := range append(outside(), 1, 19, 20, m-1, m, m+1) {
			wantNoSpread(t, fmt.Sprintf("%d into %d", m, n), rowsOf(m, 1), n, api.ErrRange)
		}
	}
}

func TestSpreadOfTooManyBytes(t *testing.T) {
	for m := 1; m <= most; m++ {
		for _, size := range []int{101, 102, 128, 200, 255, 256, 257, 300, 356, 1000} {
			for _, n := range []int{m, most} {
				wantNoSpread(t, fmt.Sprintf("%d of %d bytes into %d", m, size, n), slices.Repeat([][]byte{make([]byte, size)}, m), n, api.ErrFull)
			}
		}
	}
	for m := 2; m <= most; m++ {
		for k := 1; k < m; k++ {
			for _, size := range []int{0, 1, 100, 102, 256} {
				rows := rowsOf(m, longest+1)
				rows[k] = make([]byte, size)
				wantNoSpread(t, fmt.Sprintf("%d too long, and row %d of %d bytes", m, k, size), rows, most, api.ErrFull)
			}
		}
	}
}

func TestSpreadOfAnotherLength(t *testing.T) {
	for m := 2; m <= most; m++ {
		for k := range m {
			for _, size := range []int{0, 1, 5, 100} {
				for _, other := range []int{0, 1, 4, 5, 6, 99, 100, 101, 256 + size} {
					if other == size || k == 0 && other > longest {
						continue
					}
					rows := slices.Repeat([][]byte{make([]byte, size)}, m)
					rows[k] = make([]byte, other)
					wantNoSpread(t, fmt.Sprintf("row %d of %d of %d bytes, the others of %d", k, m, other, size), rows, most, api.ErrLength)
					wantNoSpread(t, fmt.Sprintf("row %d of %d of %d bytes, the others of %d, into as many", k, m, other, size), rows, m, api.ErrLength)
				}
			}
		}
	}
}

// What stands behind a shorter row in its memory does not make it longer.
func TestSpreadDoesNotReadBehindARow(t *testing.T) {
	rows := rowsOf(3, 4)
	rows[2] = rows[2][:3]
	wantNoSpread(t, "a shorter one", rows, 5, api.ErrLength)
	rows[0], rows[1] = rows[0][:3], rows[1][:3]
	spreads(t, "all shorter", rows, 5, wantSpread(t, copyOf(rows), 5))
	spreads(t, "two of three", rows[:2], 5, wantSpread(t, copyOf(rows[:2]), 5))
	long := slices.Repeat([][]byte{make([]byte, 200)[:longest]}, 2)
	spreads(t, "room for too many", long, 3, wantSpread(t, long, 3))
}

// All lists of 0 to 4 rows of no bytes, of one, of 100 and of 101, into -1 to 6, and into 19 to 22.
func TestSpreadOfEachList(t *testing.T) {
	sizes := []int{0, 1, longest, longest + 1}
	for m := range 5 {
		for list := range 1 << (2 * m) {
			var rows [][]byte
			for i := range m {
				rows = append(rows, some(byte(i), sizes[list>>(2*i)&3]))
			}
			for _, n := range []int{-1, 0, 1, 2, 3, 4, 5, 6, 19, 20, 21, 22} {
				name := fmt.Sprintf("%d rows, list %d, into %d", m, list, n)
				if want := wantWrongSpread(rows, n); want != api.OK {
					wantNoSpread(t, name, rows, n, want)
					continue
				}
				spreads(t, name, rows, n, wantSpread(t, rows, n))
			}
		}
	}
}

func TestSpreadLeavesWhatItIsGiven(t *testing.T) {
	for m := range 22 {
		for _, n := range []int{-1, m - 1, m, m + 1, most, most + 1} {
			for _, other := range []int{5, 4, 6} {
				var room, was [][]byte
				for _, row := range rowsOf(m+2, 5) {
					room = append(room, withRoom(row))
				}
				rows := room[:m]
				if m > 1 {
					rows[m-1] = rows[m-1][:other]
				}
				for _, row := range room {
					was = append(was, slices.Clone(row[:10]))
				}
				kept := slices.Clone(room)
				code.Spread(rows, n)
				for i, row := range room {
					if len(row) != len(kept[i]) || !bytes.Equal(row[:10], was[i]) {
						t.Errorf("Spread of %d into %d: row %d was changed", m, n, i)
					}
				}
			}
		}
	}
}

// Whoever writes into what was told, up to the end of its memory, changes nothing else; nor is it changed later.
func TestSpreadTellsFreshMemory(t *testing.T) {
	for m := 1; m <= most; m++ {
		for _, n := range []int{m, (m + most) / 2, most} {
			rows := rowsOf(m, 5)
			was, want := copyOf(rows), wantSpread(t, rows, n)
			for i := range n {
				all := spread(t, rows, n)
				clear(all[i][:cap(all[i])])
				others := slices.Delete(slices.Clone(all), i, i+1)
				same(t, fmt.Sprintf("without row %d of %d", i, n), others, slices.Delete(slices.Clone(want), i, i+1))
				clear(all[:cap(all)])
				same(t, "what was handed in", rows, was)
			}
			all := spread(t, rows, n)
			for i := range rows {
				clear(rows[i])
			}
			clear(rows)
			same(t, fmt.Sprintf("%d of %d behind a change", n, m), all, want)
			spreads(t, "once more", was, n, want)
		}
	}
}

func TestSpreadOfOneRowTellsNoListTwice(t *testing.T) {
	row := some(3, 6)
	all := spread(t, [][]byte{row}, most)
	for i := range all {
		all[i][0] = byte(i)
	}
	for i := range all {
		if all[i][0] != byte(i) {
			t.Fatalf("row %d shares its memory with another one", i)
		}
	}
	if !bytes.Equal(row, some(3, 6)) {
		t.Error("what was handed in was changed")
	}
}

func TestSpreadBehindAnError(t *testing.T) {
	rows := rowsOf(4, 3)
	want := wantSpread(t, rows, 9)
	for range 2 {
		wantNoSpread(t, "none", nil, 9, api.ErrRange)
		wantNoSpread(t, "too many", rows, 21, api.ErrRange)
		wantNoSpread(t, "too long", rowsOf(4, 101), 9, api.ErrFull)
		wantNoSpread(t, "another length", append(rows[:4:4], nil), 9, api.ErrLength)
		spreads(t, "behind errors", rows, 9, want)
	}
}

// CE2: Gather.

// The rows are told by the same throw-away script.
func TestGather(t *testing.T) {
	cases := []struct {
		ss   []api.Share
		want [][]byte
	}{
		{[]api.Share{of(3, 7, 8), of(2, 5, 14)}, [][]byte{{1, 2}, {3, 4}}},
		{[]api.Share{of(3, 1, 2), of(2, 3, 4)}, [][]byte{{7, 8}, {5, 14}}},
		{[]api.Share{of(19, 200)}, [][]byte{{200}}},
		{[]api.Share{of(19, 0), of(0, 1)}, [][]byte{{1}, {74}}},
		{[]api.Share{of(5, 1, 255), of(9, 2, 0), of(1, 3, 7)}, [][]byte{{227, 85}, {3, 7}, {135, 185}}},
		{[]api.Share{of(10, 1), of(11, 2), of(12, 3), of(13, 4), of(14, 5)}, [][]byte{{34}, {88}, {4}, {23}, {70}}},
	}
	for _, c := range cases {
		gathers(t, fmt.Sprint(c.ss), c.ss, len(c.ss), c.want)
	}
}

// All sets of so many of 9 rows of each number that was spread.
func TestGatherOfEachSet(t *testing.T) {
	for k := 1; k <= 9; k++ {
		rows := rowsOf(k, 4)
		ss := sharesOf(spread(t, rows, 9))
		for set := range 1 << 9 {
			var is []int
			for i := range 9 {
				if set>>i&1 == 1 {
					is = append(is, i)
				}
			}
			if len(is) < k {
				wantNoGather(t, fmt.Sprintf("%v of 9 of %d", is, k), at(ss, is...), k, api.ErrLength)
				continue
			}
			gathers(t, fmt.Sprintf("%v of 9 of %d", is, k), at(ss, is...), k, rows)
		}
	}
}

func TestGatherInEachOrder(t *testing.T) {
	for k := 1; k <= 6; k++ {
		rows := rowsOf(k, 3)
		ss := sharesOf(spread(t, rows, 20))[14:]
		eachOrder([]int{0, 1, 2, 3, 4, 5}, func(is []int) {
			gathers(t, fmt.Sprintf("%v of %d", is[:k], k), at(ss, is[:k]...), k, rows)
			gathers(t, fmt.Sprintf("all: %v of %d", is, k), at(ss, is...), k, rows)
		})
	}
}

// The first ones, the last ones, and some in another order, of rows of each number that was spread.
func TestGatherOfAsManyAsNeeded(t *testing.T) {
	for _, size := range []int{1, 33, longest} {
		for k := 1; k <= most; k++ {
			rows := rowsOf(k, size)
			ss := sharesOf(spread(t, rows, most))
			turned := slices.Clone(ss)
			slices.Reverse(turned)
			gathers(t, fmt.Sprint("the first ", k), ss[:k], k, rows)
			gathers(t, fmt.Sprint("the last ", k), ss[most-k:], k, rows)
			gathers(t, fmt.Sprint(k, " from the end"), turned[:k], k, rows)
			gathers(t, fmt.Sprint("all, of ", k), ss, k, rows)
			gathers(t, fmt.Sprint("all from the end, of ", k), turned, k, rows)
			for first := range most {
				var is []int
				for _, x := range places(k, first, 7) {
					is = append(is, int(x))
				}
				gathers(t, fmt.Sprintf("%v of %d", is, k), at(ss, is...), k, rows)
			}
		}
	}
}

// The first rows of a Spread of fewer rows than k are gathered too: the polynomial is the same.
func TestGatherOfMoreThanWereSpread(t *testing.T) {
	for m := 1; m <= most; m++ {
		all := spread(t, rowsOf(m, 2), most)
		ss := sharesOf(all)
		for k := m; k <= most; k++ {
			gathers(t, fmt.Sprintf("%d of %d", k, m), ss[most-k:], k, all[:k])
		}
	}
}

// Of fewer than were spread other rows are told, those of another polynomial.
func TestGatherOfFewerThanWereSpread(t *testing.T) {
	for m := 2; m <= most; m++ {
		rows := rowsOf(m, 12)
		ss := sharesOf(spread(t, rows, most))
		turned := slices.Clone(ss)
		slices.Reverse(turned)
		for k := 1; k < m; k++ {
			want := wantRows(t, turned[:k], k)
			gathers(t, fmt.Sprintf("%d of %d", k, m), turned, k, want)
			if bytes.Equal(want[0], rows[0]) {
				t.Errorf("%d of %d rows tell the first one", k, m)
			}
		}
	}
}

func TestGatherOfSharesThatNoSpreadMade(t *testing.T) {
	for k := 1; k <= most; k++ {
		for _, size := range []int{0, 1, 2, 7} {
			for _, first := range []int{0, 1, 7, 19} {
				for _, on := range []int{1, 3, 7, 9, 19} {
					ss := made(places(k, first, on), size)
					gathers(t, fmt.Sprintf("%d from %d on by %d", k, first, on), ss, k, wantRows(t, ss, k))
				}
			}
		}
	}
}

func TestGatherOfSharesThatNoSpreadMadeTold(t *testing.T) {
	h := sha256.New()
	for k := 1; k <= most; k++ {
		for _, size := range []int{0, 1, 2, 7} {
			for _, first := range []int{0, 1, 7, 19} {
				for _, on := range []int{1, 3, 7, 9, 19} {
					for _, row := range gather(t, made(places(k, first, on), size), k) {
						h.Write(row)
					}
				}
			}
		}
	}
	if got := hex.EncodeToString(h.Sum(nil)); got != "776443fd6f58d07f3446b296143ca56f4c3b94e9a29aef03bc85e79cc699bfe7" {
		t.Errorf("got rows of digest %s", got)
	}
}

func TestGatherOfOneShare(t *testing.T) {
	for x := range most {
		for b := range 256 {
			gathers(t, fmt.Sprintf("byte %d at %d", b, x), []api.Share{of(byte(x), byte(b))}, 1, [][]byte{{byte(b)}})
		}
	}
}

// Two shares of all pairs of places: the line through both, whose rise is what both differ by, over what the places do.
func TestGatherOfEachTwoPlaces(t *testing.T) {
	for x := range most {
		for y := range most {
			if x == y {
				continue
			}
			a, b := some(byte(x), 8), some(byte(y), 8)
			want := make([][]byte, 2)
			for i := range a {
				rise := wantMul(a[i]^b[i], wantInv(byte(x^y)))
				first := a[i] ^ wantMul(rise, byte(x))
				want[0], want[1] = append(want[0], first), append(want[1], first^rise)
			}
			gathers(t, fmt.Sprint("places ", x, " and ", y), []api.Share{of(byte(x), a...), of(byte(y), b...)}, 2, want)
		}
	}
}

// One share that alone is not 0 counts with its own weight at each place.
func TestGatherOfSharesAlikeAndOfOneAlone(t *testing.T) {
	for k := 1; k <= most; k++ {
		var alike, none []api.Share
		for _, x := range places(k, 5, 7) {
			alike = append(alike, of(x, 0, 1, 83, 255))
			none = append(none, of(x, 0, 0))
		}
		gathers(t, fmt.Sprint(k, " alike"), alike, k, slices.Repeat([][]byte{{0, 1, 83, 255}}, k))
		gathers(t, fmt.Sprint(k, " of nothing"), none, k, slices.Repeat([][]byte{{0, 0}}, k))
		for j := range k {
			one := copyOfShares(none)
			one[j].Data[1] = 77
			gathers(t, fmt.Sprintf("share %d of %d", j, k), one, k, wantRows(t, one, k))
		}
	}
}

func TestGatherOfNoBytes(t *testing.T) {
	for k := 1; k <= most; k++ {
		var ss []api.Share
		for i, x := range places(k, 3, 7) {
			ss = append(ss, api.Share{At: x, Data: [][]byte{nil, {}, withRoom(nil)}[i%3]})
		}
		gathers(t, fmt.Sprint(k, " of no bytes"), ss, k, make([][]byte, k))
	}
}

// What is gathered has no bound that the chapter names.
func TestGatherOfLongShares(t *testing.T) {
	for _, size := range []int{longest, 101, 255, 256, 257, 1000} {
		for _, k := range []int{1, 2, 3, most} {
			ss := made(places(k, 19, 3), size)
			gathers(t, fmt.Sprintf("%d of %d bytes", k, size), ss, k, wantRows(t, ss, k))
		}
	}
}

// The first k count alone, whatever stands behind them.
func TestGatherOfMoreThanNeeded(t *testing.T) {
	for k := 1; k <= most; k++ {
		ss := made(places(k, 4, 3), 3)
		want := wantRows(t, ss, k)
		behind := []struct {
			name string
			more []api.Share
		}{
			{"another one", []api.Share{of(byte((4+3*k)%most), 1, 2, 3)}},
			{"out of range", []api.Share{of(20, 1, 2, 3), of(255, 1, 2, 3)}},
			{"there already", []api.Share{ss[0], ss[k-1]}},
			{"there already with other bytes", []api.Share{of(ss[0].At, 1, 2, 3)}},
			{"shorter", []api.Share{of(1, 1, 2)}},
			{"of no bytes", []api.Share{of(1), {}}},
			{"longer", []api.Share{of(1, 1, 2, 3, 4)}},
			{"all of it", []api.Share{of(20), ss[0], of(20), of(255, 1, 2, 3, 4)}},
			{"very many", slices.Repeat([]api.Share{of(33)}, 1000)},
		}
		for _, b := range behind {
			gathers(t, fmt.Sprintf("%d and behind them %s", k, b.name), append(ss[:k:k], b.more...), k, want)
		}
	}
}

func TestGatherOutOfRange(t *testing.T) {
	for m := range 24 {
		ss := made(places(m, 0, 1), 2)
		for _, k := range outside() {
			wantNoGather(t, fmt.Sprintf("%d of %d", k, m), ss, k, api.ErrRange)
		}
	}
	wrong := []api.Share{of(20, 1), of(20), of(1, 1), of(1)}
	for _, k := range outside() {
		wantNoGather(t, fmt.Sprint(k, " of nil"), nil, k, api.ErrRange)
		wantNoGather(t, fmt.Sprint(k, " of wrong ones"), wrong, k, api.ErrRange)
		wantNoGather(t, fmt.Sprint(k, " of very many"), slices.Repeat(wrong, 100), k, api.ErrRange)
	}
}

func TestGatherOfTooFew(t *testing.T) {
	for k := 1; k <= most; k++ {
		for m := range k {
			wantNoGather(t, fmt.Sprintf("%d of %d", k, m), made(places(m, 0, 1), 2), k, api.ErrLength)
			wantNoGather(t, fmt.Sprintf("%d of %d, with room behind", k, m), made(places(most, 0, 1), 2)[:m], k, api.ErrLength)
			wantNoGather(t, fmt.Sprintf("%d of %d out of range", k, m), slices.Repeat([]api.Share{of(20, 1)}, m), k, api.ErrLength)
			wantNoGather(t, fmt.Sprintf("%d of %d alike", k, m), slices.Repeat([]api.Share{of(1, 1)}, m), k, api.ErrLength)
		}
	}
}

func TestGatherAtNoPlace(t *testing.T) {
	for k := 1; k <= most; k++ {
		for j := range k {
			for _, x := range []byte{20, 21, 32, 100, 127, 128, 236, 254, 255} {
				ss := made(places(k, 9, 11), 2)
				ss[j].At = x
				wantNoGather(t, fmt.Sprintf("share %d of %d at %d", j, k, x), ss, k, api.ErrRange)
				ss[j].Data = nil
				wantNoGather(t, fmt.Sprintf("share %d of %d at %d, and of no bytes", j, k, x), ss, k, api.ErrRange)
			}
		}
	}
}

func TestGatherAtEachPlace(t *testing.T) {
	for x := range 256 {
		ss := []api.Share{of(byte(x), 7)}
		if x < most {
			gathers(t, fmt.Sprint("at ", x), ss, 1, [][]byte{{7}})
			continue
		}
		wantNoGather(t, fmt.Sprint("at ", x), ss, 1, api.ErrRange)
	}
}

func TestGatherOfOneTwice(t *testing.T) {
	for k := 2; k <= most; k++ {
		for j := range k {
			for i := range j {
				ss := made(places(k, 9, 11), 2)
				ss[j].At = ss[i].At
				wantNoGather(t, fmt.Sprintf("shares %d and %d of %d", i, j, k), ss, k, api.ErrTwice)
				ss[j].Data = ss[i].Data
				wantNoGather(t, fmt.Sprintf("shares %d and %d of %d, all alike", i, j, k), ss, k, api.ErrTwice)
				ss[j].Data = []byte{1, 2, 3}
				wantNoGather(t, fmt.Sprintf("shares %d and %d of %d, the later one longer", i, j, k), ss, k, api.ErrTwice)
			}
		}
	}
}

func TestGatherOfAnotherLength(t *testing.T) {
	for k := 2; k <= most; k++ {
		for j := range k {
			for _, size := range []int{0, 1, 5} {
				for _, other := range []int{0, 1, 4, 5, 6, 256 + size} {
					if other == size {
						continue
					}
					ss := made(places(k, 9, 11), size)
					ss[j].Data = make([]byte, other)
					wantNoGather(t, fmt.Sprintf("share %d of %d of %d bytes, the others of %d", j, k, other, size), ss, k, api.ErrLength)
				}
			}
		}
	}
}

// What stands behind a shorter share's bytes in its memory does not make it longer.
func TestGatherDoesNotReadBehindAShare(t *testing.T) {
	ss := made(places(3, 9, 11), 4)
	ss[2].Data = ss[2].Data[:3]
	wantNoGather(t, "a shorter one", ss, 3, api.ErrLength)
	ss[0].Data, ss[1].Data = ss[0].Data[:3], ss[1].Data[:3]
	gathers(t, "all shorter", ss, 3, wantRows(t, copyOfShares(ss), 3))
	gathers(t, "two of three", ss[:2], 2, wantRows(t, copyOfShares(ss[:2]), 2))
}

// Several things wrong: all of one share comes ahead of all of the next.
func TestGatherOneByOne(t *testing.T) {
	cases := []struct {
		name string
		ss   []api.Share
		want api.Errno
	}{
		{"twice, then at 20", []api.Share{of(1, 1), of(1, 1), of(20, 1)}, api.ErrTwice},
		{"at 20, then twice", []api.Share{of(1, 1), of(20, 1), of(1, 1)}, api.ErrRange},
		{"shorter, then at 20", []api.Share{of(1, 1), of(2), of(20, 1)}, api.ErrLength},
		{"shorter, then twice", []api.Share{of(1, 1), of(2), of(1, 1)}, api.ErrLength},
		{"twice, then shorter", []api.Share{of(1, 1), of(1, 1), of(2)}, api.ErrTwice},
		{"at 20, then shorter", []api.Share{of(1, 1), of(20, 1), of(2)}, api.ErrRange},
		{"at 20 and shorter in one", []api.Share{of(1, 1), of(3, 1), of(20)}, api.ErrRange},
		{"twice and shorter in one", []api.Share{of(1, 1), of(3, 1), of(1)}, api.ErrTwice},
		{"at 20 twice", []api.Share{of(20, 1), of(20, 1), of(1, 1)}, api.ErrRange},
		{"the first one at 20, all others longer", []api.Share{of(20), of(1, 1), of(1, 1)}, api.ErrRange},
		{"longer, then twice at its own", []api.Share{of(1), of(2, 1), of(2, 1)}, api.ErrLength},
		{"twice, not the first one", []api.Share{of(1, 1), of(2, 1), of(2, 1)}, api.ErrTwice},
		{"at 0 twice", []api.Share{of(0, 1), of(2, 1), of(0, 1)}, api.ErrTwice},
	}
	for _, c := range cases {
		wantNoGather(t, c.name, c.ss, 3, c.want)
		wantNoGather(t, c.name+", out of range", c.ss, 21, api.ErrRange)
		wantNoGather(t, c.name+", too few", c.ss, 4, api.ErrLength)
	}
}

// All lists of 0 to 4 shares at 0, 1, 19 and 20, of no, one or two bytes, each k from -1 to 5, and 20 and 21.
func TestGatherOfEachList(t *testing.T) {
	ats := []byte{0, 1, 19, 20}
	for m := range 5 {
		all := 1
		for range m {
			all *= 12
		}
		for list := range all {
			var ss []api.Share
			for left := list; len(ss) < m; left /= 12 {
				ss = append(ss, api.Share{At: ats[left%4], Data: some(byte(len(ss)), left/4%3)})
			}
			for _, k := range []int{-1, 0, 1, 2, 3, 4, 5, 20, 21} {
				if want := wantWrongGather(ss, k); want != api.OK {
					wantNoGather(t, fmt.Sprint(k, " of ", ss), ss, k, want)
					continue
				}
				gathers(t, fmt.Sprint(k, " of ", ss), ss, k, wantRows(t, ss[:k], k))
			}
		}
	}
}

func TestGatherLeavesWhatItIsGiven(t *testing.T) {
	for m := range 22 {
		for _, k := range []int{-1, 0, 1, m - 1, m, m + 1, most, most + 1} {
			for wrong := range 4 {
				var room, was []api.Share
				for i := range m + 2 {
					room = append(room, api.Share{At: byte((9 + 11*i) % most), Data: withRoom(some(byte(i), 5))})
				}
				ss := room[:m]
				if m > 1 {
					ss[m-1].At = []byte{ss[m-1].At, 20, ss[0].At, ss[m-1].At}[wrong]
					ss[m-1].Data = ss[m-1].Data[:[]int{5, 5, 5, 4}[wrong]]
				}
				for _, s := range room {
					was = append(was, api.Share{At: s.At, Data: slices.Clone(s.Data[:10])})
				}
				lengths := copyOfShares(room)
				code.Gather(ss, k)
				for i, s := range room {
					if s.At != was[i].At || len(s.Data) != len(lengths[i].Data) || !bytes.Equal(s.Data[:10], was[i].Data) {
						t.Errorf("Gather of %d of %d: share %d was changed", k, m, i)
					}
				}
			}
		}
	}
}

// Whoever writes into what was told, up to the end of its memory, changes nothing else; nor is it changed later.
func TestGatherTellsFreshMemory(t *testing.T) {
	for k := 1; k <= most; k++ {
		for _, m := range []int{k, most} {
			ss := made(places(m, 9, 11), 5)
			was, want := copyOfShares(ss), wantRows(t, ss[:k], k)
			for i := range k {
				rows := gather(t, ss, k)
				clear(rows[i][:cap(rows[i])])
				others := slices.Delete(slices.Clone(rows), i, i+1)
				same(t, fmt.Sprintf("without row %d of %d", i, k), others, slices.Delete(slices.Clone(want), i, i+1))
				clear(rows[:cap(rows)])
				sameShares(t, "what was handed in", ss, was)
			}
			rows := gather(t, ss, k)
			for i := range ss {
				clear(ss[i].Data)
			}
			clear(ss)
			same(t, fmt.Sprintf("%d of %d behind a change", k, m), rows, want)
			gathers(t, "once more", was, k, want)
		}
	}
}

// Shares may have one list of bytes: the rows are alike then, but each has memory of its own.
func TestGatherOfOneListManyTimes(t *testing.T) {
	b := some(6, 9)
	for k := 1; k <= most; k++ {
		var ss []api.Share
		for _, x := range places(k, 9, 11) {
			ss = append(ss, api.Share{At: x, Data: b})
		}
		rows := gather(t, ss, k)
		same(t, fmt.Sprint(k, " of one list"), rows, slices.Repeat([][]byte{some(6, 9)}, k))
		for i := range rows {
			clear(rows[i])
			same(t, "those behind it", rows[i+1:], slices.Repeat([][]byte{some(6, 9)}, k-i-1))
		}
		if !bytes.Equal(b, some(6, 9)) {
			t.Fatal("what was handed in was changed")
		}
	}
}

func TestGatherBehindAnError(t *testing.T) {
	ss := made(places(4, 9, 11), 3)
	want := wantRows(t, ss, 4)
	for range 2 {
		wantNoGather(t, "none", ss, 0, api.ErrRange)
		wantNoGather(t, "too few", ss, 5, api.ErrLength)
		wantNoGather(t, "twice", append(ss[:4:4], ss[0]), 5, api.ErrTwice)
		wantNoGather(t, "another length", append(ss[:4:4], of(1)), 5, api.ErrLength)
		gathers(t, "behind errors", ss, 4, want)
	}
}

// What one has told, asked side by side, is the same: nothing is kept from call to call.
func TestSpreadAndGatherSideBySide(t *testing.T) {
	var group sync.WaitGroup
	for m := 1; m <= most; m++ {
		rows := rowsOf(m, 20)
		want := wantSpread(t, rows, most)
		for range 3 {
			group.Go(func() {
				all, err := code.Spread(rows, most)
				if err != nil || !reflect.DeepEqual(all, want) {
					t.Errorf("Spread of %d: got %v and %v", m, all, err)
				}
				first, err := code.Gather(sharesOf(want)[most-m:], m)
				if err != nil || !reflect.DeepEqual(first, rows) {
					t.Errorf("Gather of %d: got %v and %v", m, first, err)
				}
			})
		}
	}
	group.Wait()
}
