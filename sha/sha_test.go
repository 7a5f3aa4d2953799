package sha_test

import (
	"bytes"
	"crypto/sha256"
	"testing"

	"oathbook/api"
	"oathbook/octet"
	"oathbook/sha"
)

// some: so many bytes, of which no two blocks are alike.
func some(n int) []byte {
	b := make([]byte, n)
	x := uint32(n) + 1
	for i := range b {
		x = x*1664525 + 1013904223
		b[i] = byte(x >> 24)
	}
	return b
}

// want: what Go's own library tells of the same bytes.
func want(b []byte) api.Digest { return sha256.Sum256(b) }

// pieces: the digest of bytes that are written one piece after the other.
func pieces(ps ...[]byte) api.Digest {
	h := sha.New()
	for _, p := range ps {
		h.Write(p)
	}
	return h.Sum()
}

// The digests that are told by the document, and by others: no library is asked here.
func TestToldDigests(t *testing.T) {
	cases := []struct {
		b    []byte
		want string
	}{
		{nil, "e3b0c44298fc1c149afbf4c8996fb92427ae41e4649b934ca495991b7852b855"},
		{[]byte{}, "e3b0c44298fc1c149afbf4c8996fb92427ae41e4649b934ca495991b7852b855"},
		{[]byte{97, 98, 99}, "ba7816bf8f01cfea414140de5dae2223b00361a396177a9cb410ff61f20015ad"},
		{[]byte("abcdbcdecdefdefgefghfghighijhijkijkljklmklmnlmnomnopnopq"),
			"248d6a61d20638b8e5c026930c3e6039a33ce45964ff2167f6ecedd419db06c1"},
		{[]byte("abcdefghbcdefghicdefghijdefghijkefghijklfghijklmghijklmnhijklmnoijklmnopjklmnopqklmnopqrlmnopqrsmnopqrstnopqrstu"),
			"cf5b16a778af8380036ce59e7b0492370b249b11e8f07a51afac45037afee9d1"},
		{bytes.Repeat([]byte("a"), 1000000), "cdc76e5c9914fb9281a1c7e284d73e67f1809a48a497200e046d39ccc7112cd0"},
	}
	for _, c := range cases {
		if d := sha.Sum(c.b); octet.Hex(d[:]) != c.want {
			t.Errorf("Sum of %d bytes: got %x, want %s", len(c.b), d, c.want)
		}
		if d := pieces(c.b); octet.Hex(d[:]) != c.want {
			t.Errorf("a Hasher of %d bytes: got %x, want %s", len(c.b), d, c.want)
		}
	}
}

// SA1: what stands behind the bytes.

// Every length to some blocks on: 55 and 56, 63 and 64 and their multiples are among them.
func TestEveryLength(t *testing.T) {
	for n := range 6*64 + 2 {
		b := some(n)
		if got := sha.Sum(b); got != want(b) {
			t.Errorf("%d bytes: got %x, want %x", n, got, want(b))
		}
	}
}

func TestLengthsAboutBlocks(t *testing.T) {
	for _, blocks := range []int{16, 31, 32, 33, 128, 512, 1024} {
		for _, more := range []int{-9, -8, -1, 0, 1, 55, 56, 63} {
			b := some(64*blocks + more)
			if got := sha.Sum(b); got != want(b) {
				t.Errorf("%d bytes: got %x, want %x", len(b), got, want(b))
			}
		}
	}
}

// What looks like an end is none: the bytes that stand behind others are told apart from the others' own.
func TestBytesThatLookLikeAnEnd(t *testing.T) {
	end := make([]byte, 64)
	end[0] = 128
	seen := map[api.Digest]int{}
	for n := range 65 {
		d := sha.Sum(end[:n])
		if other, ok := seen[d]; ok {
			t.Errorf("%d and %d bytes have one digest", n, other)
		}
		if d != want(end[:n]) {
			t.Errorf("%d bytes: got %x, want %x", n, d, want(end[:n]))
		}
		seen[d] = n
	}
}

// 2^29 bytes are 2^32 bits: their number needs a fifth byte.
func TestMoreBitsThanFourBytesTell(t *testing.T) {
	piece := some(1 << 20)
	h, other := sha.New(), sha256.New()
	for range 512 {
		h.Write(piece)
		other.Write(piece)
	}
	h.Write(piece[:3])
	other.Write(piece[:3])
	if got := h.Sum(); !bytes.Equal(got[:], other.Sum(nil)) {
		t.Errorf("got %x, want %x", got, other.Sum(nil))
	}
}

// SA2: each 64 bytes.

func TestBlocksOfOneByte(t *testing.T) {
	for _, blocks := range []int{1, 2, 5} {
		for _, x := range []byte{0, 1, 127, 128, 254, 255} {
			b := bytes.Repeat([]byte{x}, 64*blocks)
			if got := sha.Sum(b); got != want(b) {
				t.Errorf("%d bytes %d: got %x, want %x", len(b), x, got, want(b))
			}
		}
	}
}

// Each bit of a block, alone and alone missing, in the first block and behind it.
func TestEveryBit(t *testing.T) {
	for bit := range 3 * 64 * 8 {
		for _, x := range []byte{0, 255} {
			b := bytes.Repeat([]byte{x}, 3*64)
			b[bit/8] ^= 1 << (bit % 8)
			if got := sha.Sum(b); got != want(b) {
				t.Errorf("bit %d of bytes %d: got %x, want %x", bit, x, got, want(b))
			}
		}
	}
}

// Digest of digest of digest: whatever words come out go in again.
func TestDigestsOfDigests(t *testing.T) {
	got, other := sha.Sum(nil), want(nil)
	for range 5000 {
		got, other = sha.Sum(got[:]), want(other[:])
	}
	if got != other {
		t.Errorf("got %x, want %x", got, other)
	}
}

func TestOrderOfBlocks(t *testing.T) {
	a, b := some(64), some(65)[:64]
	if pieces(a, b) == pieces(b, a) {
		t.Error("two blocks have one digest in either order")
	}
}

// SA3: a Hasher.

func TestNothingWritten(t *testing.T) {
	for name, got := range map[string]api.Digest{
		"New":          sha.New().Sum(),
		"nil":          pieces(nil),
		"empty":        pieces([]byte{}),
		"many of none": pieces(nil, nil, []byte{}, nil),
	} {
		if got != sha.Sum(nil) {
			t.Errorf("%s: got %x", name, got)
		}
	}
}

// Every cut in two, with nothing written between.
func TestEveryCut(t *testing.T) {
	b := some(3*64 + 7)
	for cut := range len(b) + 1 {
		if got := pieces(b[:cut], nil, b[cut:], nil); got != want(b) {
			t.Errorf("cut at %d: got %x, want %x", cut, got, want(b))
		}
	}
}

func TestPiecesOfOneLength(t *testing.T) {
	b := some(1000)
	for size := 1; size <= 200; size++ {
		h := sha.New()
		for at := 0; at < len(b); at += size {
			h.Write(b[at:min(at+size, len(b))])
		}
		if got := h.Sum(); got != want(b) {
			t.Errorf("pieces of %d: got %x, want %x", size, got, want(b))
		}
	}
}

func TestPiecesOfManyLengths(t *testing.T) {
	sizes := []int{0, 1, 63, 64, 65, 0, 2, 55, 56, 128, 7, 127, 129, 0, 8, 9, 191, 192, 193, 256}
	for turn := range sizes {
		h, all := sha.New(), []byte(nil)
		for i := range sizes {
			p := some(sizes[(turn+i)%len(sizes)])
			h.Write(p)
			all = append(all, p...)
			if got := h.Sum(); got != want(all) {
				t.Fatalf("from size %d on, %d bytes: got %x, want %x", sizes[turn], len(all), got, want(all))
			}
		}
	}
}

// A Sum on the way, asked once or twice, is of what was written so far, and leaves it.
func TestSumOnTheWay(t *testing.T) {
	b := some(200)
	h := sha.New()
	for i := range b {
		for range 2 {
			if got := h.Sum(); got != want(b[:i]) {
				t.Fatalf("after %d bytes: got %x, want %x", i, got, want(b[:i]))
			}
		}
		h.Write(b[i : i+1])
	}
	if got := h.Sum(); got != want(b) {
		t.Errorf("at the end: got %x, want %x", got, want(b))
	}
}

// SumOf joins its pieces as Writes do.
func TestSumOfPieces(t *testing.T) {
	b := some(200)
	if got := sha.SumOf(); got != want(nil) {
		t.Errorf("of no piece: got %x, want %x", got, want(nil))
	}
	for cut := range len(b) + 1 {
		if got := sha.SumOf(b[:cut], nil, b[cut:]); got != want(b) {
			t.Errorf("cut at %d: got %x, want %x", cut, got, want(b))
		}
	}
}

func TestTwoHashersAreApart(t *testing.T) {
	a, b := sha.New(), sha.New()
	x, y := some(100), some(101)
	for i := range 100 {
		a.Write(x[i : i+1])
		b.Write(y[i : i+1])
	}
	if a.Sum() != want(x) || b.Sum() != want(y[:100]) {
		t.Errorf("got %x and %x, want %x and %x", a.Sum(), b.Sum(), want(x), want(y[:100]))
	}
	if sha.New().Sum() != want(nil) {
		t.Error("a new one has taken something")
	}
}

// P2, P4: what is handed in stays, with what lies behind its length, and is not kept.

func TestArgumentsStay(t *testing.T) {
	for _, n := range []int{0, 1, 55, 56, 63, 64, 65, 130} {
		room := some(n + 80)
		before := bytes.Clone(room)
		h := sha.New()
		h.Write(room[:n])
		if sha.Sum(room[:n]) != want(before[:n]) || h.Sum() != want(before[:n]) {
			t.Errorf("%d bytes: what lies behind them was read", n)
		}
		if !bytes.Equal(room, before) {
			t.Errorf("%d bytes: they were written into", n)
		}
	}
}

func TestWrittenIsNotKept(t *testing.T) {
	for _, n := range []int{1, 63, 64, 65, 100} {
		b := some(n)
		digest := want(b)
		h := sha.New()
		h.Write(b)
		clear(b)
		if got := h.Sum(); got != digest {
			t.Errorf("%d bytes, then cleared: got %x, want %x", n, got, digest)
		}
	}
}

func TestAnswersAreApart(t *testing.T) {
	h := sha.New()
	h.Write([]byte("abc"))
	first := h.Sum()
	clear(first[:])
	if got := h.Sum(); got != want([]byte("abc")) {
		t.Errorf("the next answer is %x", got)
	}
}
