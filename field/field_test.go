package field_test

import (
	"crypto/sha256"
	"encoding/hex"
	"math"
	"testing"

	"oathbook/api"
	"oathbook/field"
	"oathbook/plain"
)

// pair: two bytes, and what is told of them.
type pair struct{ a, b, want byte }

// taken: a byte, how often it is taken, and what is told of both.
type taken struct {
	a    byte
	n    int
	want byte
}

// all: how many bytes there are.
const all = 256

// eachPair: asks of all 65,536 pairs of bytes whether they are as they should be.
func eachPair(t *testing.T, name string, right func(a, b byte) bool) {
	t.Helper()
	for i := range all {
		for j := range all {
			if !right(byte(i), byte(j)) {
				t.Fatalf("%s: not so of %d and %d", name, i, j)
			}
		}
	}
}

// wantAdd: at each bit 1 where one of both has it and the other one has not.
func wantAdd(a, b byte) byte {
	sum := 0
	for i := range 8 {
		if (a>>i)%2 != (b>>i)%2 {
			sum += 1 << i
		}
	}
	return byte(sum)
}

// wantMul: the chapter's words, by lists of 0 and 1: what stands at each power of x in the product of
// both, then less x^8 + x^4 + x^3 + x + 1 (taken up by as many powers as it needs) where a power of 8 or more has 1.
func wantMul(a, b byte) byte {
	var at [15]int
	for i := range 8 {
		for j := range 8 {
			at[i+j] += int(a>>i%2) * int(b>>j%2)
		}
	}
	for i := range at {
		at[i] %= 2
	}
	for high := 14; high >= 8; high-- {
		if at[high] == 0 {
			continue
		}
		for _, power := range []int{8, 4, 3, 1, 0} {
			at[high-8+power] = 1 - at[high-8+power]
		}
	}
	rest := 0
	for i := range at {
		rest += at[i] << i
	}
	return byte(rest)
}

// inv: the inverse of a byte that has one.
func inv(t *testing.T, a byte) byte {
	t.Helper()
	got, err := field.Inv(a)
	if err != nil {
		t.Fatalf("Inv(%d): told %v", a, err)
	}
	return got
}

// pow: a byte taken n times, which is not below 0.
func pow(t *testing.T, a byte, n int) byte {
	t.Helper()
	got, err := field.Pow(a, n)
	if err != nil {
		t.Fatalf("Pow(%d, %d): told %v", a, n, err)
	}
	return got
}

// great: numbers of times that nobody takes one by one.
func great() []int {
	ns := []int{100000, 1<<20 + 3, math.MaxInt, math.MaxInt - 1, math.MaxInt - 2, math.MaxInt / 255 * 255}
	for bit := 17; bit < 63; bit++ {
		ns = append(ns, 1<<bit-1, 1<<bit, 1<<bit+1, 1<<bit+255)
	}
	return ns
}

// below: numbers below 0.
func below() []int {
	return []int{-1, -2, -3, -8, -64, -254, -255, -256, -510, -1 << 16, -1 << 31, -1<<31 - 1, -1 << 32, -1 << 62, math.MinInt + 1, math.MinInt}
}

// FD1: Add.

func TestAdd(t *testing.T) {
	cases := []pair{
		{0, 0, 0}, {0, 1, 1}, {1, 1, 0}, {5, 3, 6}, {3, 5, 6}, {255, 1, 254}, {128, 128, 0}, {128, 127, 255},
		{255, 255, 0}, {87, 131, 212}, {170, 85, 255}, {200, 100, 172},
	}
	for _, c := range cases {
		if got := field.Add(c.a, c.b); got != c.want {
			t.Errorf("Add(%d, %d): got %d, want %d", c.a, c.b, got, c.want)
		}
	}
}

func TestAddOfEachPair(t *testing.T) {
	eachPair(t, "bit by bit", func(a, b byte) bool { return field.Add(a, b) == wantAdd(a, b) })
	eachPair(t, "twice the same is nothing", func(a, b byte) bool { return field.Add(field.Add(a, b), b) == a })
}

// FD1: Mul.

func TestMul(t *testing.T) {
	cases := []pair{
		{87, 131, 193}, {87, 19, 254}, {2, 128, 27}, {128, 2, 27}, {128, 128, 154}, {255, 255, 19}, {3, 7, 9},
		{16, 16, 27}, {254, 255, 236}, {83, 202, 1}, {27, 141, 128}, {141, 2, 1}, {1, 200, 200}, {200, 1, 200},
		{100, 200, 181}, {129, 129, 155}, {0, 0, 0}, {0, 255, 0}, {255, 0, 0}, {1, 1, 1}, {2, 64, 128}, {15, 17, 255},
	}
	for _, c := range cases {
		if got := field.Mul(c.a, c.b); got != c.want {
			t.Errorf("Mul(%d, %d): got %d, want %d", c.a, c.b, got, c.want)
		}
	}
}

func TestMulOfEachPair(t *testing.T) {
	eachPair(t, "the chapter's words", func(a, b byte) bool { return field.Mul(a, b) == wantMul(a, b) })
	eachPair(t, "either side", func(a, b byte) bool { return field.Mul(a, b) == field.Mul(b, a) })
}

// The digest is told by a throw-away script, which took its products from a table of the powers of 3.
func TestMulOfEachPairTold(t *testing.T) {
	var products []byte
	eachPair(t, "product", func(a, b byte) bool {
		products = append(products, field.Mul(a, b))
		return true
	})
	sum := sha256.Sum256(products)
	if got := hex.EncodeToString(sum[:]); got != "14a1e7e77ca8a30b5bb53e6310748ce0498eb9e04ab78a44dbefb6ebfac8a84b" {
		t.Errorf("got products of digest %s", got)
	}
}

func TestMulWithNothingAndWithOne(t *testing.T) {
	for i := range all {
		a := byte(i)
		if field.Mul(a, 0) != 0 || field.Mul(0, a) != 0 {
			t.Errorf("%d and 0: got %d and %d", a, field.Mul(a, 0), field.Mul(0, a))
		}
		if field.Mul(a, 1) != a || field.Mul(1, a) != a {
			t.Errorf("%d and 1: got %d and %d", a, field.Mul(a, 1), field.Mul(1, a))
		}
	}
}

func TestMulIsNothingOfNothingAlone(t *testing.T) {
	eachPair(t, "nothing", func(a, b byte) bool { return (field.Mul(a, b) == 0) == (a == 0 || b == 0) })
}

func TestMulOfSumsAndOfProducts(t *testing.T) {
	for _, c := range []byte{0, 1, 2, 3, 27, 83, 128, 141, 254, 255} {
		eachPair(t, "of a sum", func(a, b byte) bool {
			return field.Mul(field.Add(a, b), c) == field.Add(field.Mul(a, c), field.Mul(b, c))
		})
		eachPair(t, "of a product", func(a, b byte) bool {
			return field.Mul(field.Mul(a, b), c) == field.Mul(a, field.Mul(b, c))
		})
	}
}

// FD1: Inv.

func TestInv(t *testing.T) {
	cases := [][2]byte{
		{1, 1}, {2, 141}, {3, 246}, {4, 203}, {5, 82}, {16, 116}, {83, 202}, {127, 130}, {128, 131}, {141, 2},
		{202, 83}, {246, 3}, {254, 65}, {255, 28},
	}
	for _, c := range cases {
		if got := inv(t, c[0]); got != c[1] {
			t.Errorf("Inv(%d): got %d, want %d", c[0], got, c[1])
		}
	}
}

func TestInvOfEachByte(t *testing.T) {
	for i := 1; i < all; i++ {
		a := byte(i)
		b := inv(t, a)
		if field.Mul(a, b) != 1 || field.Mul(b, a) != 1 || wantMul(a, b) != 1 {
			t.Errorf("Inv(%d): got %d, and their product is %d", a, b, wantMul(a, b))
		}
		if back := inv(t, b); back != a {
			t.Errorf("Inv(%d): got %d, whose inverse is %d", a, b, back)
		}
	}
}

func TestInvOfNothing(t *testing.T) {
	for range 2 {
		got, err := field.Inv(0)
		if got != 0 || plain.Told(err) != api.ErrRange {
			t.Errorf("Inv(0): got %d and %v", got, err)
		}
	}
	if got := inv(t, 83); got != 202 {
		t.Errorf("Inv(83) behind an error: got %d", got)
	}
}

// FD1: Pow.

func TestPow(t *testing.T) {
	cases := []taken{
		{0, 0, 1}, {0, 1, 0}, {0, 255, 0}, {1, 0, 1}, {2, 0, 1}, {255, 0, 1}, {2, 7, 128}, {2, 8, 27}, {2, 9, 54},
		{2, 51, 1}, {3, 1, 3}, {3, 2, 5}, {3, 254, 246}, {3, 255, 1}, {3, 256, 3}, {3, 1000, 148}, {83, 3, 195},
		{128, 10, 198}, {255, 100, 197}, {7, 1<<31 - 1, 156}, {7, 1 << 31, 249}, {3, 1 << 32, 3}, {3, 1<<32 + 1, 5},
		{200, 1<<40 + 77, 22}, {3, 1 << 62, 76}, {3, math.MaxInt, 160}, {255, math.MaxInt, 233}, {0, math.MaxInt, 0},
		{0, 1 << 62, 0}, {83, math.MaxInt - 1, 175}, {1, math.MaxInt, 1},
	}
	for _, c := range cases {
		if got := pow(t, c.a, c.n); got != c.want {
			t.Errorf("Pow(%d, %d): got %d, want %d", c.a, c.n, got, c.want)
		}
	}
}

func TestPowOfEachByteOneByOne(t *testing.T) {
	for i := range all {
		a, want := byte(i), byte(1)
		for n := range 1100 {
			if got := pow(t, a, n); got != want {
				t.Fatalf("Pow(%d, %d): got %d, want %d", a, n, got, want)
			}
			want = wantMul(want, a)
		}
	}
}

func TestPowOfSomeBytesOneByOne(t *testing.T) {
	for _, a := range []byte{0, 1, 2, 3, 83, 255} {
		want := byte(1)
		for n := range 1<<16 + 300 {
			if got := pow(t, a, n); got != want {
				t.Fatalf("Pow(%d, %d): got %d, want %d", a, n, got, want)
			}
			want = field.Mul(want, a)
		}
	}
}

// The digest is told by a throw-away script, which took its powers from a table of the powers of 3.
func TestPowTold(t *testing.T) {
	var powers []byte
	for i := range all {
		for n := range 1000 {
			powers = append(powers, pow(t, byte(i), n))
		}
	}
	sum := sha256.Sum256(powers)
	if got := hex.EncodeToString(sum[:]); got != "3a9a5db25e9ef9b5806f8732bb5330c53b55531f72b84b2ecd36c9f5a969efa6" {
		t.Errorf("got powers of digest %s", got)
	}
}

// Each byte but 0, taken 255 times, is 1: of a great number of times only what 255 leaves counts.
func TestPowOfGreatNumbers(t *testing.T) {
	for i := 1; i < all; i++ {
		a := byte(i)
		if got := pow(t, a, 255); got != 1 {
			t.Fatalf("Pow(%d, 255): got %d", a, got)
		}
		for _, n := range great() {
			want := byte(1)
			for range n % 255 {
				want = field.Mul(want, a)
			}
			if got := pow(t, a, n); got != want {
				t.Fatalf("Pow(%d, %d): got %d, want %d", a, n, got, want)
			}
		}
	}
}

func TestPowOfNothing(t *testing.T) {
	if got := pow(t, 0, 0); got != 1 {
		t.Errorf("Pow(0, 0): got %d, want 1", got)
	}
	for _, n := range append(great(), 1, 2, 3, 4, 8, 16, 254, 255, 256, 510) {
		if got := pow(t, 0, n); got != 0 {
			t.Errorf("Pow(0, %d): got %d, want 0", n, got)
		}
	}
}

func TestPowBelowNothing(t *testing.T) {
	for i := range all {
		for _, n := range below() {
			got, err := field.Pow(byte(i), n)
			if got != 0 || plain.Told(err) != api.ErrRange {
				t.Errorf("Pow(%d, %d): got %d and %v", i, n, got, err)
			}
		}
	}
	if got := pow(t, 3, 2); got != 5 {
		t.Errorf("Pow(3, 2) behind an error: got %d", got)
	}
}
