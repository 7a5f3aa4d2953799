package stamp_test

import (
	"crypto/hmac"
	"crypto/sha256"
	"math"
	"slices"
	"testing"

	"oathbook/api"
	"oathbook/mac"
	"oathbook/octet"
	"oathbook/plain"
	"oathbook/stamp"
	"oathbook/tree"
	"oathbook/wots"
)

// tallest: stamps have at most 2^4 keys.
const tallest = 4

// rising: a digest whose bytes are 0 to 31.
func rising() api.Digest {
	var d api.Digest
	for i := range d {
		d[i] = byte(i)
	}
	return d
}

// full: a digest whose bytes are all x.
func full(x byte) api.Digest {
	var d api.Digest
	for i := range d {
		d[i] = x
	}
	return d
}

// flip: the digest with its bit i another one.
func flip(d api.Digest, i int) api.Digest {
	d[i/8] ^= 128 >> (i % 8)
	return d
}

// seeds: digests to begin with, the smallest and the greatest among them.
func seeds() []api.Digest {
	return []api.Digest{{}, {1}, {31: 1}, rising(), full(255)}
}

// text: the i-th digest to sign; no two of them are alike.
func text(i int) api.Digest {
	some := []api.Digest{{}, full(255), {2}, rising(), full(0x0f), full(0xf0), {31: 1}}
	if i < len(some) {
		return some[i]
	}
	return sha256.Sum256([]byte{byte(i)})
}

// steps: so many digests that no seed made: of bytes 1, of bytes 2, and so on.
func steps(n int) []api.Digest {
	var ds []api.Digest
	for i := range n {
		ds = append(ds, full(byte(i+1)))
	}
	return ds
}

// outside: heights that are out of range.
func outside() []int {
	return []int{-1, -2, -4, -5, -8, -64, -256, -1 << 31, -1 << 32, -1<<32 + 1, math.MinInt, math.MinInt + 1,
		5, 6, 7, 8, 9, 16, 31, 32, 33, 61, 62, 63, 64, 65, 128, 255, 256, 257, 260, 1 << 16, 1 << 31, 1 << 32, 1<<32 + 1, 1<<32 + 4, 1 << 62, math.MaxInt - 1, math.MaxInt}
}

// notAt: numbers that none of n keys has.
func notAt(n int) []int {
	return []int{-1, -2, -n, -n - 1, -256, -1 << 32, math.MinInt, math.MinInt + 1,
		n, n + 1, 2 * n, 255, 256, 257, 256 + n - 1, 1 << 16, 1 << 31, 1 << 32, 1<<32 + n - 1, 1 << 62, math.MaxInt}
}

// wantMac: what Go's own library tells of bytes with a seed as key.
func wantMac(seed api.Digest, b ...byte) api.Digest {
	h := hmac.New(sha256.New, seed[:])
	h.Write(b)
	return api.Digest(h.Sum(nil))
}

// wantKey: the chapter's key i of a seed.
func wantKey(seed api.Digest, i int) api.Digest { return wantMac(seed, 11, byte(i)) }

// wantDigits: the Digits of chapter 6.
func wantDigits(m api.Digest) []int {
	var digits []int
	sum := 0
	for _, b := range m {
		digits = append(digits, int(b>>4), int(b&15))
		sum += 30 - int(b>>4) - int(b&15)
	}
	return append(digits, sum/256, sum/16%16, sum%16)
}

// wantWalk: the Walk of chapter 4.
func wantWalk(d api.Digest, n int) api.Digest {
	for range n {
		d = sha256.Sum256(append([]byte{8}, d[:]...))
	}
	return d
}

// wantLeaf: the Public of chapter 6, of a key.
func wantLeaf(key api.Digest) api.Digest {
	all := []byte{7}
	for i := range 67 {
		end := wantWalk(wantMac(key, 5, byte(i)), 15)
		all = append(all, end[:]...)
	}
	return sha256.Sum256(all)
}

// wantSig: the Sign of chapter 6, by a key.
func wantSig(key, m api.Digest) []api.Digest {
	var sig []api.Digest
	for i, n := range wantDigits(m) {
		sig = append(sig, wantWalk(wantMac(key, 5, byte(i)), n))
	}
	return sig
}

// wantLeaves: the Publics of a seed's 2^h keys, in order.
func wantLeaves(seed api.Digest, h int) []api.Digest {
	var ls []api.Digest
	for i := range 1 << h {
		ls = append(ls, wantLeaf(wantKey(seed, i)))
	}
	return ls
}

// wantNode: the Node of chapter 7.
func wantNode(l, r api.Digest) api.Digest {
	return sha256.Sum256(slices.Concat([]byte{1}, l[:], r[:]))
}

// above: the Nodes of two leaves each.
func above(ls []api.Digest) []api.Digest {
	var nodes []api.Digest
	for i := 0; i < len(ls); i += 2 {
		nodes = append(nodes, wantNode(ls[i], ls[i+1]))
	}
	return nodes
}

// wantRoot: the Root of chapter 7, of as many leaves as a power of 2.
func wantRoot(ls []api.Digest) api.Digest {
	for len(ls) > 1 {
		ls = above(ls)
	}
	return ls[0]
}

// wantPath: the Path of chapter 7: what stands beside leaf i, from it up.
func wantPath(ls []api.Digest, i int) []api.Digest {
	var path []api.Digest
	for ; len(ls) > 1; i /= 2 {
		path = append(path, ls[i^1])
		ls = above(ls)
	}
	return path
}

// wantPublic: the chapter's Public of a seed.
func wantPublic(seed api.Digest, h int) api.Digest { return wantRoot(wantLeaves(seed, h)) }

// wantRecover: the chapter's Recover, of a signature with nothing wrong.
func wantRecover(m api.Digest, s api.Signature) api.Digest {
	all := []byte{7}
	for i, n := range wantDigits(m) {
		end := wantWalk(s.Sig[i], 15-n)
		all = append(all, end[:]...)
	}
	d := api.Digest(sha256.Sum256(all))
	at := s.At
	for _, beside := range s.Path {
		if at%2 == 0 {
			d = wantNode(d, beside)
		} else {
			d = wantNode(beside, d)
		}
		at /= 2
	}
	return d
}

// public: what Public tells, where it must tell something.
func public(t *testing.T, seed api.Digest, h int) api.Digest {
	t.Helper()
	d, err := stamp.Public(seed, h)
	if err != nil {
		t.Fatalf("Public of 2^%d keys: %v", h, err)
	}
	return d
}

// newStamp: what New tells, where it must tell something.
func newStamp(t *testing.T, seed api.Digest, h int) *stamp.Stamp {
	t.Helper()
	s, err := stamp.New(seed, h)
	if err != nil || s == nil {
		t.Fatalf("New of 2^%d keys: got %v and %v", h, s, err)
	}
	return s
}

// sign: what Sign tells, where it must tell something.
func sign(t *testing.T, s *stamp.Stamp, m api.Digest) api.Signature {
	t.Helper()
	g, err := s.Sign(m)
	if err != nil {
		t.Fatalf("Sign: %v", err)
	}
	return g
}

// signed: a signature of each key of a seed, of one text behind the other.
func signed(t *testing.T, seed api.Digest, h int) []api.Signature {
	t.Helper()
	s := newStamp(t, seed, h)
	var all []api.Signature
	for i := range 1 << h {
		all = append(all, sign(t, s, text(i)))
	}
	return all
}

// recovered: what Recover tells, where it must tell something.
func recovered(t *testing.T, m api.Digest, h int, g api.Signature) api.Digest {
	t.Helper()
	d, err := stamp.Recover(m, h, g)
	if err != nil {
		t.Fatalf("Recover by 2^%d keys, At %d, %d digests, a path of %d: %v", h, g.At, len(g.Sig), len(g.Path), err)
	}
	return d
}

// wantOther: Recover of what isn't a signature by public tells another digest: what the chapter makes of it.
func wantOther(t *testing.T, public, m api.Digest, h int, g api.Signature) {
	t.Helper()
	got := recovered(t, m, h, g)
	if got == public {
		t.Errorf("2^%d keys, At %d: it is still the public key", h, g.At)
	}
	if want := wantRecover(m, g); got != want {
		t.Errorf("2^%d keys, At %d: got %x, want %x", h, g.At, got, want)
	}
}

// wantWrong: Recover tells an error, and no digest.
func wantWrong(t *testing.T, m api.Digest, h int, g api.Signature, want api.Errno) {
	t.Helper()
	if d, err := stamp.Recover(m, h, g); plain.Told(err) != want || d != (api.Digest{}) {
		t.Errorf("Recover by 2^%d keys, At %d, %d digests, a path of %d: got %x and %v, want %v", h, g.At, len(g.Sig), len(g.Path), d, err, want)
	}
}

// wantSpent: Sign tells ErrSpent and nothing else, however often it is asked, and nothing is left.
func wantSpent(t *testing.T, s *stamp.Stamp) {
	t.Helper()
	for i := range 5 {
		g, err := s.Sign(text(i))
		if plain.Told(err) != api.ErrSpent || !same(g, api.Signature{}) {
			t.Errorf("Sign, when all keys were spent: got %v and %v", g, err)
		}
		wantLeft(t, s, 0)
	}
}

// wantLeft: so many keys are left.
func wantLeft(t *testing.T, s *stamp.Stamp, want int) {
	t.Helper()
	if got := s.Left(); got != want {
		t.Errorf("Left: got %d, want %d", got, want)
	}
}

// same: whether two signatures are alike.
func same(a, b api.Signature) bool {
	return a.At == b.At && slices.Equal(a.Sig, b.Sig) && slices.Equal(a.Path, b.Path)
}

// copied: the signature in memory of its own.
func copied(g api.Signature) api.Signature {
	return api.Signature{At: g.At, Sig: slices.Clone(g.Sig), Path: slices.Clone(g.Path)}
}

// sumOf: Hex of what Go's own library tells of digests, one behind the other.
func sumOf(ds []api.Digest) string {
	var b []byte
	for _, d := range ds {
		b = append(b, d[:]...)
	}
	sum := sha256.Sum256(b)
	return octet.Hex(sum[:])
}

// ST1: Public.

// Keys that another program has told of the chapter's words, by rising h: no library is asked here.
func TestToldPublics(t *testing.T) {
	told := [][]string{{
		"b1f2bb659077a7d2b6657b8a7a659be403512ac15ae7aea978c4f68ddb183c0c",
		"95afd3e756aa1c4c71644d94c1247f8866df4e70ac90e9382ee2ae9fdf0eea96",
		"ab76afe599296d0d65fa7e70ff6b6c81b33c7a629f99f989b377ca957dcdffd5",
		"d1c464df518f9e41ed62d44a6ab80cf66ea02b6947fe18ce09ab853564ff146f",
		"2b09aa9fcc59090277f82f7cd750273d648056bb0ad80d5792b765d1adb5bc7a",
	}, {
		"0acdeb615ea5b09f5805cd95ee1b1e4c8247426fa434db93789e5703b6aeefc2",
		"bbe89b1870d43ee9e45c52407d7ac177d601d4c1cdf707d8a2e7ed32cdbad734",
		"55556c792d7bcedad88cb012c4df3689adb5630164380d357f8002a0ea450277",
		"794b8f005aa79a34e4eb05e2758cbd867a0743dbb7655712e2211ad6cc791e2a",
		"6bb6cab4b06f5c19d390034f95e199a970d5d21353032b65f2dc9acdb8115dd9",
	}, {
		"5228d26bc8596e2b4fb38bc8e0e969bcca0bd9bd0584625023d666a322336e6c",
		"d8cf0ed4fac5142a29e0ba34dfd227886529cd67fac49883088f9222c6fc269b",
		"5ffc58f2a5679b503bebd1185b55a6e4cc433dd1a0b00bed6b6bec11dce48b2b",
		"024c315a2a655ebee33ffe5ad264221d3f7963fc3dec041cc5be625fbbcf5f66",
		"f99d50a18a6f05cfd8fefc16ee1e703c63769fa1a8c14638ca3732f81528384f",
	}, {
		"60161eea425123d51bcb70eed6f3b7dca9a5e95f8144e23cd8327852e6b21bf3",
		"de096be887e287ca4f20a53e8c791a105036ddebd999b06ca8ee8fa3ae89170f",
		"8d815faea25343c0cab4e8689f040d9b2de794df24851f8947755c373efebeb4",
		"c71b7d35da235ff3478f6509e4deb034ff626db2c5424ecea1b87c3b19c9c958",
		"0fe2e2945d5bd88ed3157e8b09b2b067c9e842b6a39696f365ce5d91555b1d05",
	}, {
		"5fac8a7a1cc39bf253edce2c24503a405fb82b3670183cbea591d142d8d0bf53",
		"6eb7e15b777c0ffeef3dac710996cbeea39e7bff979d668c4a221eefd2bf7bd3",
		"a1aac45edc8b23fbb3401af9a76bb36196ed9afdccada08af8751130a41c8104",
		"067f57e21d65841d0c8305d576d579908147b84bfeb5dcc9c8fa5b8a1d8645f3",
		"fd38c30cdf865f2e35ea16d1bd3bec5ba40ae8db3d115c599b4bd2a5ad2e811e",
	}}
	for i, seed := range seeds() {
		for h, want := range told[i] {
			if d := public(t, seed, h); octet.Hex(d[:]) != want {
				t.Errorf("%x, 2^%d keys: got %x, want %s", seed, h, d, want)
			}
		}
	}
}

func TestPublic(t *testing.T) {
	for _, seed := range append(seeds(), text(7), text(8), full(0x5a)) {
		for h := range tallest + 1 {
			if got, want := public(t, seed, h), wantPublic(seed, h); got != want {
				t.Errorf("%x, 2^%d keys: got %x, want %x", seed, h, got, want)
			}
		}
	}
}

// The chapter's words, by the program's own Mac, Public of one key, and Root.
func TestPublicByMacAndRoot(t *testing.T) {
	for _, seed := range seeds() {
		for h := range tallest + 1 {
			var leaves []api.Digest
			for i := range 1 << h {
				leaves = append(leaves, wots.Public(mac.Mac(seed[:], []byte{11, byte(i)})))
			}
			if want, err := tree.Root(leaves); err != nil || public(t, seed, h) != want {
				t.Errorf("%x, 2^%d keys: got %x, want %x and %v", seed, h, public(t, seed, h), want, err)
			}
		}
	}
}

// Each bit of a seed counts.
func TestPublicOfEveryBit(t *testing.T) {
	seen := map[api.Digest]int{public(t, api.Digest{}, 1): -1}
	for bit := range 256 {
		seed := flip(api.Digest{}, bit)
		got := public(t, seed, 1)
		if want := wantPublic(seed, 1); got != want {
			t.Errorf("a seed of bit %d: got %x, want %x", bit, got, want)
		}
		if other, ok := seen[got]; ok {
			t.Errorf("seeds of the bits %d and %d have one Public", bit, other)
		}
		seen[got] = bit
	}
}

// No two seeds, and no two heights of one, have one Public; the seed as a key of chapter 6 has none of them.
func TestPublicsDiffer(t *testing.T) {
	seen := map[api.Digest]int{}
	for _, seed := range seeds() {
		seen[wots.Public(seed)]++
		for h := range tallest + 1 {
			seen[public(t, seed, h)]++
		}
	}
	if want := len(seeds()) * (tallest + 2); len(seen) != want {
		t.Errorf("got %d keys, want %d", len(seen), want)
	}
}

func TestPublicOutOfRange(t *testing.T) {
	for _, seed := range seeds() {
		for _, h := range outside() {
			if d, err := stamp.Public(seed, h); plain.Told(err) != api.ErrRange || d != (api.Digest{}) {
				t.Errorf("%x, height %d: got %x and %v", seed, h, d, err)
			}
		}
	}
}

// ST2: New, Sign and Left.

func TestNewOutOfRange(t *testing.T) {
	for _, seed := range seeds() {
		for _, h := range outside() {
			if s, err := stamp.New(seed, h); plain.Told(err) != api.ErrRange || s != nil {
				t.Errorf("%x, height %d: got %v and %v", seed, h, s, err)
			}
		}
	}
}

// Signatures that another program has told: the first digest of Sig, and Sum of all of Sig and of all of Path.
func TestToldSignatures(t *testing.T) {
	cases := []struct {
		seed             api.Digest
		h, at            int
		m                api.Digest
		first, sig, path string
	}{
		{api.Digest{}, 0, 0, api.Digest{},
			"0af75a55c1a8ea03cf8f8b1a6f9bec9d29fe449441e35c14cd49075751c0241a",
			"17b268586b2539204d232113533f96207eab413bc9930d415202d8f2c739b36c",
			"e3b0c44298fc1c149afbf4c8996fb92427ae41e4649b934ca495991b7852b855"},
		{api.Digest{1}, 1, 0, api.Digest{2},
			"150de22d7b3de2eae4690ddd1e233da6de8f701abf2083791a9ef06796ce8fb2",
			"65d49bbc388ed41e6fefd842355b47dea0a5776c3eb8e5a3c3209da0296f6a30",
			"51444995a03faa41a810e42477a4127500859b1803c783b6d72edb32b4c30da1"},
		{api.Digest{1}, 1, 1, api.Digest{2},
			"6e360a3336e10a2de1f3ba424f7bc00535eb03bf808957197006a6d1876a333c",
			"c8874c57f0ca85467f03c5ef8f73346ae03fd4a186d840d9b373b11adc804f31",
			"d2c133509793232435163a894e71f5e82dd195c603e61afebb7d01fe7dbebfec"},
		{api.Digest{31: 1}, 2, 2, full(255),
			"183707554566e373988e74e60b34becc608cdbf6dc53c55e04e9a2d192c82113",
			"06a346afb2c2253db85ee5d2815f50b8fd8a713922ce09750af92150ae575962",
			"2d92cb9a5731c9011c99eed56d151b9014732a4d792176a74f5bc39850c08edf"},
		{rising(), 3, 0, rising(),
			"6e7f17f4183e5ec0e4c190ee859ce2aa1fd34595a7664184eaf4118e51fcc02e",
			"221da37fe60fe80e66ff951d281ec5d72d51d108213d1b8bdbb7ac9e27e2f750",
			"4095e49de33320d236ad8d89ad49865391810ca90506d965b8e3c732b135380e"},
		{rising(), 3, 6, rising(),
			"5cb61cc4955b7efbfb74237e23037057d9834daefd968a0eb90e636ed81a7fb6",
			"dd01f51f79c92b435db4571d9bfc6c4dccde10a84ffb5745c4007b7fe8d3a064",
			"a2ad3a768f3ec36c2541afc5a7e5e64d8cce4f539d534a11cf9371080e43b341"},
		{full(255), 4, 0, full(255),
			"405c45d5d9c135e21696f0e6eb641ce99df9e21cb4d93e25cf1cda7d816349ff",
			"60fe5ef7f7722e90297f8969dc6efa3a803fb12d82d069ba4c8f46e02a845a84",
			"70095f97d5ab044d9716db73cc808488193a07e46affff66905e956228641311"},
		{full(255), 4, 9, rising(),
			"2f66deba0beac5a04cb3dc76b9b642116ad759ee1a2231a48a055e425fdd8ffe",
			"fd25eaec2ec5ab98e785be207918781ea244337d18421be2947ca1a83b60e85d",
			"0b4deef2fe8986a6bf774b339879b06a639efe5713988ff81b9a6b07a5ed5adc"},
		{full(255), 4, 15, api.Digest{},
			"75cee54f46f66c8c1858a3a6eacf5a11f6af92a38db243f6b5cd1a23535a8c9b",
			"5f1b60f65994e8aabb39bbfdd4efbcf1a5b8de2cea7422085efe0e70fa222248",
			"fc9603f8a46b0b000c6ac165519f4d571ffcf01199f214fb5b2f16a0b9705a76"},
	}
	for _, c := range cases {
		s := newStamp(t, c.seed, c.h)
		for i := range c.at {
			sign(t, s, text(i))
		}
		g := sign(t, s, c.m)
		if g.At != c.at || len(g.Sig) != 67 || len(g.Path) != c.h {
			t.Fatalf("2^%d keys, At %d: got At %d, %d digests, a path of %d", c.h, c.at, g.At, len(g.Sig), len(g.Path))
		}
		if octet.Hex(g.Sig[0][:]) != c.first || sumOf(g.Sig) != c.sig || sumOf(g.Path) != c.path {
			t.Errorf("2^%d keys, At %d: got %x, %s and %s", c.h, c.at, g.Sig[0], sumOf(g.Sig), sumOf(g.Path))
		}
	}
}

// One text behind the other, till all keys are spent: At, Sig, Path and Left as the chapter says.
func TestSignTillSpent(t *testing.T) {
	for _, seed := range seeds() {
		for h := range tallest + 1 {
			s, leaves := newStamp(t, seed, h), wantLeaves(seed, h)
			wantLeft(t, s, 1<<h)
			for i := range leaves {
				want := api.Signature{At: i, Sig: wantSig(wantKey(seed, i), text(i)), Path: wantPath(leaves, i)}
				if got := sign(t, s, text(i)); !same(got, want) {
					t.Fatalf("%x, 2^%d keys, key %d: got %v, want %v", seed, h, i, got, want)
				}
				wantLeft(t, s, len(leaves)-i-1)
			}
			wantSpent(t, s)
		}
	}
}

// The same by the program's own Mac, Sign of one key, and Path; the same text is signed with every key.
func TestSignByMacAndPath(t *testing.T) {
	for _, seed := range seeds() {
		for h := range tallest + 1 {
			var keys, leaves []api.Digest
			for i := range 1 << h {
				keys = append(keys, mac.Mac(seed[:], []byte{11, byte(i)}))
				leaves = append(leaves, wots.Public(keys[i]))
			}
			s := newStamp(t, seed, h)
			for i, key := range keys {
				path, err := tree.Path(leaves, i)
				if err != nil {
					t.Fatal(err)
				}
				want := api.Signature{At: i, Sig: wots.Sign(key, rising()), Path: path}
				if got := sign(t, s, rising()); !same(got, want) {
					t.Fatalf("%x, 2^%d keys, key %d: got %v, want %v", seed, h, i, got, want)
				}
			}
			wantSpent(t, s)
		}
	}
}

// Of whatever height a stamp is, its first keys are the same ones.
func TestKeysOfEveryHeight(t *testing.T) {
	tall := signed(t, rising(), tallest)
	for h := range tallest {
		for i, g := range signed(t, rising(), h) {
			if !slices.Equal(g.Sig, tall[i].Sig) || !slices.Equal(g.Path, tall[i].Path[:h]) {
				t.Errorf("2^%d keys, key %d: it is another one than of 2^%d", h, i, tallest)
			}
		}
	}
}

func TestLeftSpendsNothing(t *testing.T) {
	s := newStamp(t, rising(), 2)
	for i := range 4 {
		for range 3 {
			wantLeft(t, s, 4-i)
		}
		if g := sign(t, s, text(0)); g.At != i {
			t.Errorf("signature %d is At %d", i, g.At)
		}
	}
	wantSpent(t, s)
}

// Stamps stand alone, also those of one seed, and whatever else is called between.
func TestStampsStandAlone(t *testing.T) {
	seed := rising()
	want := signed(t, seed, 2)
	first, second, other := newStamp(t, seed, 2), newStamp(t, seed, 2), newStamp(t, full(7), 2)
	for i := range want {
		if got := sign(t, first, text(i)); !same(got, want[i]) {
			t.Errorf("the first stamp, key %d: got %v, want %v", i, got, want[i])
		}
		wantLeft(t, first, 3-i)
		wantLeft(t, second, 4)
		sign(t, other, text(i))
		recovered(t, text(i), 2, want[i])
		public(t, seed, 2)
		newStamp(t, seed, 1)
		if _, err := stamp.New(seed, 5); plain.Told(err) != api.ErrRange {
			t.Errorf("New of height 5: %v", err)
		}
	}
	wantSpent(t, first)
	for i := range want {
		if got := sign(t, second, text(i)); !same(got, want[i]) {
			t.Errorf("the second stamp, key %d: got %v, want %v", i, got, want[i])
		}
	}
	wantSpent(t, second)
	wantSpent(t, other)
}

// ST2: Recover.

func TestRecoverOfSign(t *testing.T) {
	for _, seed := range seeds() {
		for h := range tallest + 1 {
			want := public(t, seed, h)
			for i, g := range signed(t, seed, h) {
				if got := recovered(t, text(i), h, g); got != want {
					t.Errorf("%x, 2^%d keys, key %d: got %x, want %x", seed, h, i, got, want)
				}
			}
		}
	}
}

// Each single bit, and none.
func TestRecoverOfSignOfEveryBit(t *testing.T) {
	want := public(t, rising(), tallest)
	s := newStamp(t, rising(), tallest)
	for bit := range 256 {
		if s.Left() == 0 {
			s = newStamp(t, rising(), tallest)
		}
		m := flip(api.Digest{}, bit)
		if got := recovered(t, m, tallest, sign(t, s, m)); got != want {
			t.Errorf("bit %d: got %x, want %x", bit, got, want)
		}
	}
}

// Keys that another program has told of 67 digests and of a path that no seed made.
func TestToldRecovers(t *testing.T) {
	cases := []struct {
		h, at int
		m     api.Digest
		want  string
	}{
		{0, 0, api.Digest{}, "a79a5a810ee7d786da9353c9825a6e661c633a8be3834d6e3a95c632625162d4"},
		{1, 0, full(255), "cb5a3cade2bf3d093ceabefa91e962921d7a67824ebecdccf782c24e7660d809"},
		{1, 1, full(255), "032f4b7ca84b9a4de5101a396da3a15031f1b468d7b4751013d2f4ee4df63c22"},
		{2, 1, rising(), "a23e79eea8be867f3f8a8e9067e2812e060cd8ea7a31b92427b40ac46bb4f692"},
		{3, 4, api.Digest{}, "ab6d2c5a9a480ffcc258ebed6980cfab363ac70109068a9d9afca5508e26b8d0"},
		{4, 0, rising(), "12ab704c1444c47b20a6794adb38548730e5436ab3df3ab76895e131eb999616"},
		{4, 10, rising(), "f9babbbe44882a347a57d599326572067017972242a77590c39ca2fdd0246270"},
		{4, 15, full(255), "971446e7fb8ade836bb9782317c39aa11b154c0056947fd376a789289b3fcb70"},
	}
	for _, c := range cases {
		g := api.Signature{At: c.at, Sig: make([]api.Digest, 67), Path: steps(c.h)}
		if d := recovered(t, c.m, c.h, g); octet.Hex(d[:]) != c.want {
			t.Errorf("2^%d keys, At %d: got %x, want %s", c.h, c.at, d, c.want)
		}
	}
}

// What no seed made has no error at any place: it tells what the chapter makes of it.
func TestRecoverOfWhatNoSeedMade(t *testing.T) {
	for h := range tallest + 1 {
		for at := range 1 << h {
			g := api.Signature{At: at, Sig: steps(67), Path: steps(h)}
			for i := range 4 {
				if got, want := recovered(t, text(i), h, g), wantRecover(text(i), g); got != want {
					t.Errorf("2^%d keys, At %d: got %x, want %x", h, at, got, want)
				}
			}
		}
	}
}

func TestRecoverOfAnotherText(t *testing.T) {
	seed := rising()
	for h := range tallest + 1 {
		p := public(t, seed, h)
		for i, g := range signed(t, seed, h) {
			for j := range 20 {
				if j != i {
					wantOther(t, p, text(j), h, g)
				}
			}
		}
	}
	p, all := public(t, seed, 2), signed(t, seed, 2)
	for bit := range 256 {
		wantOther(t, p, flip(text(3), bit), 2, all[3])
	}
}

// One digest of Sig changed, at each place.
func TestRecoverOfChangedSig(t *testing.T) {
	seed := rising()
	for h := range tallest + 1 {
		p := public(t, seed, h)
		for i, g := range signed(t, seed, h) {
			for at := range g.Sig {
				changed := copied(g)
				changed.Sig[at] = flip(changed.Sig[at], (37*at+i)%256)
				wantOther(t, p, text(i), h, changed)
			}
		}
	}
}

// Every place there is but the signature's own.
func TestRecoverOfChangedAt(t *testing.T) {
	seed := rising()
	for h := range tallest + 1 {
		p := public(t, seed, h)
		for i, g := range signed(t, seed, h) {
			for at := range 1 << h {
				if at != i {
					wantOther(t, p, text(i), h, api.Signature{At: at, Sig: g.Sig, Path: g.Path})
				}
			}
		}
	}
}

// Each digest of Path, by each bit, and its place.
func TestRecoverOfChangedPath(t *testing.T) {
	seed := rising()
	for h := 1; h <= tallest; h++ {
		p, all := public(t, seed, h), signed(t, seed, h)
		for i, g := range all {
			for at := range g.Path {
				changed := copied(g)
				changed.Path[at] = flip(changed.Path[at], (41*at+i)%256)
				wantOther(t, p, text(i), h, changed)
				if next := (at + 1) % h; next != at {
					turned := copied(g)
					turned.Path[at], turned.Path[next] = turned.Path[next], turned.Path[at]
					wantOther(t, p, text(i), h, turned)
				}
			}
		}
		for bit := range 256 {
			changed := copied(all[1])
			changed.Path[bit%h] = flip(changed.Path[bit%h], bit)
			wantOther(t, p, text(1), h, changed)
		}
	}
}

// One key's Sig beside the At and the Path of another one.
func TestRecoverOfMixedSignatures(t *testing.T) {
	p, all := public(t, rising(), 3), signed(t, rising(), 3)
	for i, g := range all {
		for j, other := range all {
			if i != j {
				wantOther(t, p, text(i), 3, api.Signature{At: other.At, Sig: g.Sig, Path: other.Path})
				wantOther(t, p, text(i), 3, api.Signature{At: g.At, Sig: g.Sig, Path: other.Path})
			}
		}
	}
}

func TestRecoverOfAnotherSeed(t *testing.T) {
	for h := range tallest + 1 {
		p := public(t, rising(), h)
		for i, g := range signed(t, full(7), h) {
			wantOther(t, p, text(i), h, g)
		}
	}
}

// ST2: what is wrong with what is handed in to Recover.

// Whether the signature is right, or wrong in one way or in all of them.
func TestRecoverOutOfRange(t *testing.T) {
	for h := range tallest + 1 {
		g := signed(t, rising(), h)[0]
		for _, out := range outside() {
			wantWrong(t, text(0), out, g, api.ErrRange)
			wantWrong(t, text(0), out, api.Signature{}, api.ErrRange)
			for _, sig := range [][]api.Digest{nil, g.Sig[:66], steps(68)} {
				wantWrong(t, text(0), out, api.Signature{At: 0, Sig: sig, Path: g.Path}, api.ErrRange)
				wantWrong(t, text(0), out, api.Signature{At: -1, Sig: sig, Path: steps(9)}, api.ErrRange)
			}
			for _, at := range notAt(1 << h) {
				wantWrong(t, text(0), out, api.Signature{At: at, Sig: g.Sig, Path: g.Path}, api.ErrRange)
			}
			wantWrong(t, text(0), out, api.Signature{At: 0, Sig: g.Sig, Path: steps(h + 1)}, api.ErrRange)
		}
	}
}

// Fewer and more digests: also where At, or Path, or both are wrong too.
func TestRecoverOfOtherCounts(t *testing.T) {
	for h := range tallest + 1 {
		for i, g := range signed(t, rising(), h) {
			long := slices.Repeat(g.Sig, 8)
			for _, n := range []int{0, 1, 2, 32, 64, 65, 66, 68, 69, 128, 134, 256, 256 + 67, 512} {
				wantWrong(t, text(i), h, api.Signature{At: i, Sig: long[:n], Path: g.Path}, api.ErrLength)
				wantWrong(t, text(i), h, api.Signature{At: i, Sig: long[:n], Path: steps(h + 1)}, api.ErrLength)
				for _, at := range notAt(1 << h) {
					wantWrong(t, text(i), h, api.Signature{At: at, Sig: long[:n], Path: g.Path}, api.ErrLength)
					wantWrong(t, text(i), h, api.Signature{At: at, Sig: long[:n]}, api.ErrLength)
				}
			}
			wantWrong(t, text(i), h, api.Signature{At: i, Path: g.Path}, api.ErrLength)
		}
	}
	for n := range 300 {
		if n != 67 {
			wantWrong(t, text(0), 0, api.Signature{Sig: make([]api.Digest, n)}, api.ErrLength)
		}
	}
	wantWrong(t, text(0), 0, api.Signature{Sig: make([]api.Digest, 1<<16+67)}, api.ErrLength)
}

// A place that no key has: also where Path is wrong too.
func TestRecoverOfNoPlace(t *testing.T) {
	for h := range tallest + 1 {
		g := signed(t, rising(), h)[0]
		for _, at := range notAt(1 << h) {
			for _, path := range [][]api.Digest{g.Path, nil, steps(h + 1), steps(64)} {
				wantWrong(t, text(0), h, api.Signature{At: at, Sig: g.Sig, Path: path}, api.ErrRange)
			}
		}
	}
}

func TestRecoverOfShortAndLongPaths(t *testing.T) {
	for h := range tallest + 1 {
		for i, g := range signed(t, rising(), h) {
			long := append(slices.Clone(g.Path), steps(70)...)
			for n := range long {
				if n != h {
					wantWrong(t, text(i), h, api.Signature{At: i, Sig: g.Sig, Path: long[:n]}, api.ErrLength)
				}
			}
			for _, n := range []int{256, 256 + h, 1<<16 + h} {
				wantWrong(t, text(i), h, api.Signature{At: i, Sig: g.Sig, Path: make([]api.Digest, n)}, api.ErrLength)
			}
			if h > 0 {
				wantWrong(t, text(i), h, api.Signature{At: i, Sig: g.Sig, Path: g.Path[1:]}, api.ErrLength)
			}
		}
	}
}

// A signature beside another height than its own: its place is not there, or its path is not as long.
func TestRecoverOfAnotherHeight(t *testing.T) {
	for own := range tallest + 1 {
		for i, g := range signed(t, rising(), own) {
			for h := range tallest + 1 {
				if i >= 1<<h {
					wantWrong(t, text(i), h, g, api.ErrRange)
				} else if h != own {
					wantWrong(t, text(i), h, g, api.ErrLength)
				}
			}
		}
	}
}

// P2, P3, P4: nothing that is handed in is written into or kept, nor what lies behind it; what comes out is fresh.

func TestArgumentsStay(t *testing.T) {
	for h := range tallest + 1 {
		p := public(t, rising(), h)
		for i, g := range signed(t, rising(), h) {
			sig, path := append(slices.Clone(g.Sig), steps(3)...), append(slices.Clone(g.Path), steps(3)...)
			sigBefore, pathBefore := slices.Clone(sig), slices.Clone(path)
			short := api.Signature{At: i, Sig: sig[:67], Path: path[:h]}
			if got := recovered(t, text(i), h, short); got != p {
				t.Errorf("2^%d keys, key %d: what lies behind the signature counts: got %x, want %x", h, i, got, p)
			}
			wantWrong(t, text(i), h, api.Signature{At: i, Sig: sig[:66], Path: path[:h]}, api.ErrLength)
			wantWrong(t, text(i), h, api.Signature{At: i, Sig: sig[:67], Path: path[:h+1]}, api.ErrLength)
			wantWrong(t, text(i), h, api.Signature{At: -1, Sig: sig[:67], Path: path[:h]}, api.ErrRange)
			wantWrong(t, text(i), -1, short, api.ErrRange)
			if !slices.Equal(sig, sigBefore) || !slices.Equal(path, pathBefore) {
				t.Errorf("2^%d keys, key %d: the signature was written into", h, i)
			}
		}
	}
}

// What is done with a signature, in all of its memory, is not seen in the other ones, nor by the stamp.
func TestSignaturesAreFresh(t *testing.T) {
	for h := range tallest + 1 {
		want := signed(t, rising(), h)
		s, other := newStamp(t, rising(), h), newStamp(t, rising(), h)
		for i := range want {
			g, twin := sign(t, s, text(i)), sign(t, other, text(i))
			clear(g.Sig[:cap(g.Sig)])
			if !slices.Equal(g.Path, want[i].Path) {
				t.Errorf("2^%d keys, key %d: Sig and Path share memory", h, i)
			}
			clear(g.Path[:cap(g.Path)])
			if !same(twin, want[i]) {
				t.Errorf("2^%d keys, key %d: two signatures share memory", h, i)
			}
		}
		wantSpent(t, s)
		for i, g := range signed(t, rising(), h) {
			if !same(g, want[i]) {
				t.Errorf("2^%d keys, key %d: a signature hangs on what was done with another", h, i)
			}
		}
	}
}

// The same of signatures of one stamp: those that were told before stay as they are.
func TestEarlierSignaturesStay(t *testing.T) {
	s, leaves := newStamp(t, rising(), 3), wantLeaves(rising(), 3)
	var all []api.Signature
	for i := range leaves {
		all = append(all, sign(t, s, text(i)))
		for j, g := range all {
			want := api.Signature{At: j, Sig: wantSig(wantKey(rising(), j), text(j)), Path: wantPath(leaves, j)}
			if !same(g, want) {
				t.Errorf("behind signature %d, signature %d is another one", i, j)
			}
		}
	}
}

// A call that failed leaves nothing behind: the next one tells what it told before.
func TestAfterErrors(t *testing.T) {
	seed := rising()
	p, all := public(t, seed, 1), signed(t, seed, 1)
	for range 3 {
		wantWrong(t, text(1), 1, api.Signature{At: 1, Sig: all[1].Sig}, api.ErrLength)
		wantWrong(t, text(1), 1, api.Signature{At: 2, Sig: all[1].Sig, Path: all[1].Path}, api.ErrRange)
		if _, err := stamp.Public(seed, -1); plain.Told(err) != api.ErrRange {
			t.Errorf("Public of height -1: %v", err)
		}
		if got := recovered(t, text(1), 1, all[1]); got != p || public(t, seed, 1) != p {
			t.Errorf("got %x and %x, want %x", got, public(t, seed, 1), p)
		}
	}
}
