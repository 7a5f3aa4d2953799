package mac_test

import (
	"bytes"
	"crypto/hkdf"
	"crypto/hmac"
	"crypto/sha256"
	"math"
	"testing"

	"oathbook/api"
	"oathbook/mac"
	"oathbook/octet"
	"oathbook/plain"
	"oathbook/sha"
)

// some: so many bytes, of which no two blocks are alike.
func some(n int) []byte {
	b := make([]byte, n)
	x := uint32(n) + 1
	for i := range b {
		x = x*1664525 + 1013904223
		b[i] = byte(x >> 24)
	}
	return b
}

// wantMac: what Go's own library tells of the same key and bytes.
func wantMac(key, b []byte) api.Digest {
	h := hmac.New(sha256.New, key)
	h.Write(b)
	return api.Digest(h.Sum(nil))
}

// wantExpand: what Go's own library tells of the same key and bytes.
func wantExpand(t *testing.T, key, info []byte, n int) []byte {
	t.Helper()
	b, err := hkdf.Expand(sha256.New, key, string(info), n)
	if err != nil {
		t.Fatal(err)
	}
	return b
}

// expand: what Expand tells, where it must tell something.
func expand(t *testing.T, key, info []byte, n int) []byte {
	t.Helper()
	b, err := mac.Expand(key, info, n)
	if err != nil {
		t.Fatalf("Expand of %d: %v", n, err)
	}
	return b
}

func unhex(t *testing.T, s string) []byte {
	t.Helper()
	b, err := octet.Unhex(s)
	if err != nil {
		t.Fatal(err)
	}
	return b
}

// count: the bytes from one to another.
func count(from, to int) []byte {
	var b []byte
	for x := from; x <= to; x++ {
		b = append(b, byte(x))
	}
	return b
}

// MC1: Mac.

// Digests that others have told: no library is asked here.
func TestToldMacs(t *testing.T) {
	long := bytes.Repeat([]byte{0xaa}, 131)
	cases := []struct {
		key, b []byte
		want   string
	}{
		{nil, nil, "b613679a0814d9ec772f95d778c35fc5ff1697c493715653c6c712144292c5ad"},
		{[]byte{}, []byte{}, "b613679a0814d9ec772f95d778c35fc5ff1697c493715653c6c712144292c5ad"},
		{[]byte("Jefe"), []byte("what do ya want for nothing?"),
			"5bdcc146bf60754e6a042426089575c75a003f089d2739839dec58b964ec3843"},
		{bytes.Repeat([]byte{11}, 20), []byte("Hi There"),
			"b0344c61d8db38535ca8afceaf0bf12b881dc200c9833da726e9376c2e32cff7"},
		{bytes.Repeat([]byte{0xaa}, 20), bytes.Repeat([]byte{0xdd}, 50),
			"773ea91e36800e46854db8ebd09181a72959098b3ef8c122d9635514ced565fe"},
		{count(1, 25), bytes.Repeat([]byte{0xcd}, 50),
			"82558a389a443c0ea4cc819899f2083a85f0faa3e578f8077a2e3ff46729665b"},
		{long, []byte("Test Using Larger Than Block-Size Key - Hash Key First"),
			"60e431591ee0b67f0d8a26aacbf5b77f8e0bc6213728c5140546040f0ee37f54"},
		{long, []byte("This is a test using a larger than block-size key and a larger than block-size data. " +
			"The key needs to be hashed before being used by the HMAC algorithm."),
			"9b09ffa71b942fcb27635fbcd5b0e944bfdc63644f0713938a7f51535c3a35e2"},
	}
	for _, c := range cases {
		if d := mac.Mac(c.key, c.b); octet.Hex(d[:]) != c.want {
			t.Errorf("key of %d, %d bytes: got %x, want %s", len(c.key), len(c.b), d, c.want)
		}
	}
}

// The chapter's words, step by step, of keys on both sides of 64.
func TestMacIsTwoSums(t *testing.T) {
	for _, n := range []int{0, 1, 63, 64, 65, 100} {
		key, b := some(n), some(77)
		short := key
		if n > 64 {
			d := sha.Sum(key)
			short = d[:]
		}
		inner, outer := make([]byte, 64), make([]byte, 64)
		copy(inner, short)
		copy(outer, short)
		for i := range 64 {
			inner[i] ^= 54
			outer[i] ^= 92
		}
		first := sha.Sum(append(inner, b...))
		want := sha.Sum(append(outer, first[:]...))
		if got := mac.Mac(key, b); got != want {
			t.Errorf("key of %d: got %x, want %x", n, got, want)
		}
	}
}

// Keys of every length to beyond two blocks, with bytes of lengths about the edges of a block.
func TestKeysOfEveryLength(t *testing.T) {
	for n := range 140 {
		key := some(n)
		for _, size := range []int{0, 1, 55, 56, 63, 64, 65, 200} {
			b := some(size)
			if got, want := mac.Mac(key, b), wantMac(key, b); got != want {
				t.Errorf("key of %d, %d bytes: got %x, want %x", n, size, got, want)
			}
		}
	}
}

func TestBytesOfEveryLength(t *testing.T) {
	for _, n := range []int{0, 32, 64, 65} {
		key := some(n)
		for size := range 260 {
			b := some(size)
			if got, want := mac.Mac(key, b), wantMac(key, b); got != want {
				t.Errorf("key of %d, %d bytes: got %x, want %x", n, size, got, want)
			}
		}
	}
	b := some(100000)
	if got, want := mac.Mac(b, b), wantMac(b, b); got != want {
		t.Errorf("%d bytes as key and text: got %x, want %x", len(b), got, want)
	}
}

// A key longer than 64 bytes is as good as its Sum; one of 64 is not.
func TestLongKeyBesideItsSum(t *testing.T) {
	b := []byte("text")
	for _, n := range []int{65, 66, 127, 128, 129, 1000} {
		key := some(n)
		sum := sha.Sum(key)
		if mac.Mac(key, b) != mac.Mac(sum[:], b) {
			t.Errorf("a key of %d is not its Sum", n)
		}
		if !bytes.Equal(expand(t, key, b, 70), expand(t, sum[:], b, 70)) {
			t.Errorf("Expand: a key of %d is not its Sum", n)
		}
	}
	for _, n := range []int{0, 1, 63, 64} {
		key := some(n)
		sum := sha.Sum(key)
		if mac.Mac(key, b) == mac.Mac(sum[:], b) {
			t.Errorf("a key of %d is taken for its Sum", n)
		}
	}
}

// Bytes 0 behind a key fill its block: to 64 they tell nothing apart, beyond they do.
func TestZerosBehindAKey(t *testing.T) {
	b := []byte("text")
	key := make([]byte, 65)
	copy(key, "key")
	for n := 3; n <= 64; n++ {
		if mac.Mac(key[:n], b) != mac.Mac(key[:3], b) {
			t.Errorf("a key with %d bytes 0 behind it is another", n-3)
		}
	}
	if mac.Mac(key, b) == mac.Mac(key[:3], b) {
		t.Error("a key of 65 bytes is cut to 64")
	}
	if mac.Mac(append([]byte{0}, key[:3]...), b) == mac.Mac(key[:3], b) {
		t.Error("a byte 0 ahead of a key is left out")
	}
}

// Each bit of a key's block counts, and each bit of the text.
func TestEveryBitOfKeyAndText(t *testing.T) {
	for bit := range 64 * 8 {
		for _, x := range []byte{0, 54, 92, 255} {
			b := bytes.Repeat([]byte{x}, 64)
			b[bit/8] ^= 1 << (bit % 8)
			if got, want := mac.Mac(b, nil), wantMac(b, nil); got != want {
				t.Errorf("key, bit %d of %d: got %x, want %x", bit, x, got, want)
			}
			if got, want := mac.Mac(nil, b), wantMac(nil, b); got != want {
				t.Errorf("text, bit %d of %d: got %x, want %x", bit, x, got, want)
			}
		}
	}
}

func TestKeyAndTextAreNotOne(t *testing.T) {
	if mac.Mac([]byte("ab"), []byte("c")) == mac.Mac([]byte("a"), []byte("bc")) {
		t.Error("what ends the key begins the text")
	}
	if mac.Mac([]byte("a"), []byte("b")) == mac.Mac([]byte("b"), []byte("a")) {
		t.Error("key and text have changed places")
	}
}

// MC2: Expand.

// Bytes that others have told: no library is asked here.
func TestToldExpands(t *testing.T) {
	cases := []struct {
		key       string
		info      []byte
		n         int
		wantBytes string
	}{
		{"077709362c2e32df0ddc3f0dc47bba6390b6c73bb50f9c3122ec844ad7c2b3e5", count(0xf0, 0xf9), 42,
			"3cb25f25faacd57a90434f64d0362f2a2d2d0a90cf1a5a4c5db02d56ecc4c5bf34007208d5b887185865"},
		{"06a6b88c5853361a06104c9ceb35b45cef760014904671014a193f40c15fc244", count(0xb0, 0xff), 82,
			"b11e398dc80327a1c8e7f78c596a49344f012eda2d4efad8a050cc4c19afa97c59045a99cac7827271cb41c65e590e09" +
				"da3275600c2f09b8367793a9aca3db71cc30c58179ec3e87c14c01d5c1f3434f1d87"},
		{"19ef24a32c717b167f33a91d6f648bdf96596776afdb6377ac434c1c293ccb04", nil, 42,
			"8da4e775a563c18f715f802a063c5a31b8a11f5c5ee1879ec3454e5f3c738d2d9d201395faa4b61a96c8"},
	}
	for _, c := range cases {
		if got := octet.Hex(expand(t, unhex(t, c.key), c.info, c.n)); got != c.wantBytes {
			t.Errorf("%d bytes: got %s, want %s", c.n, got, c.wantBytes)
		}
	}
}

// The chapter's words, step by step: T1 has nothing ahead of it, and counts from 1.
func TestExpandIsMacs(t *testing.T) {
	key, info := []byte("key"), []byte("info")
	t1 := mac.Mac(key, append(bytes.Clone(info), 1))
	t2 := mac.Mac(key, append(append(t1[:], info...), 2))
	t3 := mac.Mac(key, append(append(t2[:], info...), 3))
	want := append(append(t1[:], t2[:]...), t3[:]...)
	if got := expand(t, key, info, 96); !bytes.Equal(got, want) {
		t.Errorf("got %x, want %x", got, want)
	}
}

// Every count from 0 to MaxOut, 32 and its multiples among them, and fewer bytes beside more: fewer are the beginning.
func TestEveryCount(t *testing.T) {
	key, info := some(32), some(10)
	all := wantExpand(t, key, info, api.MaxOut)
	for n := range api.MaxOut + 1 {
		if got := expand(t, key, info, n); len(got) != n || !bytes.Equal(got, all[:n]) {
			t.Fatalf("%d bytes: got %d, %x, want %x", n, len(got), got, all[:n])
		}
	}
}

func TestExpandOfManyKeysAndInfos(t *testing.T) {
	for _, keySize := range []int{0, 1, 31, 32, 33, 63, 64, 65, 130} {
		for _, infoSize := range []int{0, 1, 22, 23, 31, 32, 33, 64, 1000} {
			key, info := some(keySize), some(infoSize)
			for _, n := range []int{0, 1, 31, 32, 33, 63, 64, 65, 1000, api.MaxOut} {
				if got, want := expand(t, key, info, n), wantExpand(t, key, info, n); !bytes.Equal(got, want) {
					t.Errorf("key of %d, info of %d, %d bytes: got %x, want %x", keySize, infoSize, n, got, want)
				}
			}
		}
	}
}

func TestExpandOutOfRange(t *testing.T) {
	for _, n := range []int{-1, -32, math.MinInt, api.MaxOut + 1, api.MaxOut + 32, 255 * 32, 1 << 40, math.MaxInt} {
		b, err := mac.Expand([]byte("key"), []byte("info"), n)
		if plain.Told(err) != api.ErrRange || b != nil {
			t.Errorf("Expand of %d: got %d bytes and %v", n, len(b), err)
		}
	}
	for _, n := range []int{0, api.MaxOut} {
		if b, err := mac.Expand(nil, nil, n); err != nil || len(b) != n {
			t.Errorf("Expand of %d: got %d bytes and %v", n, len(b), err)
		}
	}
}

// P2, P4: what is handed in stays, with what lies behind its length; nil is an empty list; answers are apart.

func TestArgumentsStay(t *testing.T) {
	for _, n := range []int{0, 1, 31, 32, 63, 64, 65, 130} {
		keyRoom, textRoom := some(n+100), some(n+101)
		keyBefore, textBefore := bytes.Clone(keyRoom), bytes.Clone(textRoom)
		key, text := keyRoom[:n], textRoom[:n]
		if mac.Mac(key, text) != wantMac(keyBefore[:n], textBefore[:n]) {
			t.Errorf("Mac, %d bytes: what lies behind them was read", n)
		}
		if !bytes.Equal(expand(t, key, text, 100), wantExpand(t, keyBefore[:n], textBefore[:n], 100)) {
			t.Errorf("Expand, %d bytes: what lies behind them was read", n)
		}
		if !bytes.Equal(keyRoom, keyBefore) || !bytes.Equal(textRoom, textBefore) {
			t.Errorf("%d bytes: they were written into", n)
		}
	}
}

// One list as key and as text, and an answer that is handed in again.
func TestOneListTwice(t *testing.T) {
	for _, n := range []int{5, 64, 65} {
		b := some(n)
		if mac.Mac(b, b) != wantMac(b, b) {
			t.Errorf("%d bytes as key and text: got %x", n, mac.Mac(b, b))
		}
		if !bytes.Equal(expand(t, b, b, 70), wantExpand(t, b, b, 70)) {
			t.Errorf("%d bytes as key and info: got %x", n, expand(t, b, b, 70))
		}
	}
}

func TestNilIsEmpty(t *testing.T) {
	empty := []byte{}
	if mac.Mac(nil, nil) != mac.Mac(empty, empty) {
		t.Error("Mac tells nil and empty apart")
	}
	if !bytes.Equal(expand(t, nil, nil, 50), expand(t, empty, empty, 50)) {
		t.Error("Expand tells nil and empty apart")
	}
}

func TestAnswersAreApart(t *testing.T) {
	key, info := some(32), some(10)
	first := expand(t, key, info, 100)
	want := bytes.Clone(first)
	second := expand(t, key, info, 100)
	clear(first)
	_ = append(first[:10], 1, 2, 3)
	if !bytes.Equal(second, want) || !bytes.Equal(expand(t, key, info, 100), want) {
		t.Error("an answer changed with another")
	}
	if mac.Mac(key, info) != wantMac(some(32), some(10)) {
		t.Error("the key changed with an answer")
	}
}
