package once_test

import (
	"bytes"
	"crypto/hmac"
	"crypto/sha256"
	"slices"
	"testing"

	"oathbook/api"
	"oathbook/mac"
	"oathbook/octet"
	"oathbook/once"
	"oathbook/plain"
	"oathbook/sha"
)

// rising: a digest whose bytes are 0 to 31.
func rising() api.Digest {
	var d api.Digest
	for i := range d {
		d[i] = byte(i)
	}
	return d
}

// full: a digest whose bytes are all x.
func full(x byte) api.Digest {
	var d api.Digest
	for i := range d {
		d[i] = x
	}
	return d
}

// seeds: digests to begin with, the smallest and the greatest among them.
func seeds() []api.Digest {
	return []api.Digest{{}, {1}, {31: 1}, rising(), full(255)}
}

// texts: digests to sign; each place has a bit 0 and a bit 1 in one of them, beside others alike and unlike.
func texts() []api.Digest {
	return []api.Digest{{}, full(255), full(0x55), full(0xaa), {128}, {31: 1}, rising(), sha256.Sum256([]byte("abc"))}
}

// flip: the digest with its bit i another one.
func flip(d api.Digest, i int) api.Digest {
	d[i/8] ^= 128 >> (i % 8)
	return d
}

// bitOf: bit i, by dividing: the byte i / 8 has it where 2^(7 - i mod 8) goes into it an odd number of times.
func bitOf(d api.Digest, i int) int {
	weight := 1
	for range 7 - i%8 {
		weight *= 2
	}
	return int(d[i/8]) / weight % 2
}

// wantSecret: what Go's own library tells of the bytes 2, i, b with the seed as key.
func wantSecret(seed api.Digest, i, b int) api.Digest {
	h := hmac.New(sha256.New, seed[:])
	h.Write([]byte{2, byte(i), byte(b)})
	return api.Digest(h.Sum(nil))
}

// wantLeaf: what Go's own library tells of a byte 3 and a secret.
func wantLeaf(d api.Digest) api.Digest { return sha256.Sum256(append([]byte{3}, d[:]...)) }

// wantKey: what Go's own library tells of a byte 4 and all leaves, the two of a place by bit.
func wantKey(leaves [256][2]api.Digest) api.Digest {
	all := []byte{4}
	for _, both := range leaves {
		all = append(all, both[0][:]...)
		all = append(all, both[1][:]...)
	}
	return sha256.Sum256(all)
}

// wantPublic: the chapter's Public of a seed.
func wantPublic(seed api.Digest) api.Digest {
	var leaves [256][2]api.Digest
	for i := range leaves {
		for b := range 2 {
			leaves[i][b] = wantLeaf(wantSecret(seed, i, b))
		}
	}
	return wantKey(leaves)
}

// wantSign: the chapter's Sign.
func wantSign(seed, m api.Digest) []api.Digest {
	var sig []api.Digest
	for i := range 256 {
		b := bitOf(m, i)
		sig = append(sig, wantSecret(seed, i, b), wantLeaf(wantSecret(seed, i, 1-b)))
	}
	return sig
}

// wantRecover: the chapter's Recover of 512 digests.
func wantRecover(m api.Digest, sig []api.Digest) api.Digest {
	var leaves [256][2]api.Digest
	for i := range leaves {
		b := bitOf(m, i)
		leaves[i][b], leaves[i][1-b] = wantLeaf(sig[2*i]), sig[2*i+1]
	}
	return wantKey(leaves)
}

// recovered: what Recover tells, where it must tell something.
func recovered(t *testing.T, m api.Digest, sig []api.Digest) api.Digest {
	t.Helper()
	got, err := once.Recover(m, sig)
	if err != nil {
		t.Fatalf("Recover of %d: %v", len(sig), err)
	}
	return got
}

// joined: the bytes of digests, one behind the other.
func joined(ds []api.Digest) []byte {
	var b []byte
	for _, d := range ds {
		b = append(b, d[:]...)
	}
	return b
}

// ON1: Public.

// Keys that another program has told of the chapter's words: no library is asked here.
func TestToldPublics(t *testing.T) {
	told := []string{
		"8d8955a9e5fb03f7374dd2e049d36a85f1a4c21777b558946f604d07e52262a2",
		"a331335af827d733117b60e8210dbd67d16e325788c4676b5485bf26b47ff9aa",
		"7a6b5edfbd61897a704bd418c862189073ae96397601aebf29a3fcd999e4bac7",
		"e3d41db566f57148a67d0784c71f1a03853ba8fbf5b060e797ac6069444b3b58",
		"85ca90e637a83692a2242f8552a7cc111077f515bf20f955526309016f0e39b5",
	}
	for i, seed := range seeds() {
		if d := once.Public(seed); octet.Hex(d[:]) != told[i] {
			t.Errorf("Public of %x: got %x, want %s", seed, d, told[i])
		}
	}
}

func TestPublic(t *testing.T) {
	for _, seed := range slices.Concat(seeds(), texts()) {
		if got, want := once.Public(seed), wantPublic(seed); got != want {
			t.Errorf("Public of %x: got %x, want %x", seed, got, want)
		}
	}
}

// The chapter's words, by the program's own Mac and Sum.
func TestPublicByMacAndSum(t *testing.T) {
	for _, seed := range seeds() {
		all := []byte{4}
		for i := range 256 {
			for b := range 2 {
				secret := mac.Mac(seed[:], []byte{2, byte(i), byte(b)})
				leaf := sha.Sum(append([]byte{3}, secret[:]...))
				all = append(all, leaf[:]...)
			}
		}
		if got, want := once.Public(seed), sha.Sum(all); got != want {
			t.Errorf("Public of %x: got %x, want %x", seed, got, want)
		}
	}
}

// Each bit of a seed counts.
func TestPublicOfEveryBit(t *testing.T) {
	seen := map[api.Digest]int{once.Public(api.Digest{}): -1}
	for bit := range 256 {
		seed := flip(api.Digest{}, bit)
		got := once.Public(seed)
		if want := wantPublic(seed); got != want {
			t.Errorf("a seed of bit %d: got %x, want %x", bit, got, want)
		}
		if other, ok := seen[got]; ok {
			t.Errorf("seeds of the bits %d and %d have one Public", bit, other)
		}
		seen[got] = bit
	}
}

// ON2: Sign.

// Signatures that another program has told: some of their digests, and Sum of all of them.
func TestToldSignatures(t *testing.T) {
	cases := []struct {
		seed, m          api.Digest
		first, last, all string
	}{
		{api.Digest{}, api.Digest{},
			"adeb0dac9812e5a2fcba91d00cd805c1b09ebd2ead7ceb3e493661f12dcca5dd",
			"571494281a168aa50afec82394e34e5ccbb77537cc92cfdb1fc49a6dd3edfda4",
			"a23ef83cf17719ce380a6a9e65ba37068d68cb04af5bc1e958f2021e9a508da4"},
		{api.Digest{1}, api.Digest{2},
			"426b2cbce80f2f8757ed4e44d45f4a8e685c0a6bd277bed560497a0ff681a84a",
			"a98c41c3a82a52b9c67afd73f2c1557a3fee9338eecf3287fcaaaa2c13d4c56d",
			"29cfc0a3bdd3c41d854d54637f2cda12ab81d7c59fab491c4e380f8cd87383d4"},
		{rising(), rising(),
			"0b2c59deb2d3a2ec70e92d8b83335490c5ea0c0eceb331288f2b7907e9bda454",
			"fbe7a804c84c37edac2c51f5ed27302354bcb6e23822d211d321763f7643cb66",
			"e881be66dd504319b7d309550696351afb8ba33676a87350d872f80d711966b3"},
		{full(255), full(255),
			"abf08d79391f07c70125fc1ebf43607b2636a26bab0624d60b4cd35ec7d59a17",
			"8d6df240ff128a315f27c11093f17086a6bfd78552aac9fadde5ffdac0251822",
			"da7920ed362dc060a280ad30f293b0dfde80d02fdbd0bc7942fba10720117a85"},
	}
	for _, c := range cases {
		sig := once.Sign(c.seed, c.m)
		if len(sig) != 512 {
			t.Fatalf("%x by %x: %d digests", c.m, c.seed, len(sig))
		}
		all := sha256.Sum256(joined(sig))
		for name, pair := range map[string][2]string{
			"first": {octet.Hex(sig[0][:]), c.first},
			"last":  {octet.Hex(sig[511][:]), c.last},
			"all":   {octet.Hex(all[:]), c.all},
		} {
			if pair[0] != pair[1] {
				t.Errorf("%x by %x, %s: got %s, want %s", c.m, c.seed, name, pair[0], pair[1])
			}
		}
	}
}

func TestSign(t *testing.T) {
	for _, seed := range seeds() {
		for _, m := range texts() {
			got, want := once.Sign(seed, m), wantSign(seed, m)
			if len(got) != len(want) {
				t.Fatalf("%x by %x: %d digests, want %d", m, seed, len(got), len(want))
			}
			for at := range want {
				if got[at] != want[at] {
					t.Fatalf("%x by %x, digest %d: got %x, want %x", m, seed, at, got[at], want[at])
				}
			}
		}
	}
}

// Each bit alone 1 and alone 0: its place shows the other secret, and every other place what it showed.
func TestSignOfEveryBit(t *testing.T) {
	seed := rising()
	for _, m := range []api.Digest{{}, full(255)} {
		before := once.Sign(seed, m)
		for bit := range 256 {
			other := flip(m, bit)
			sig := once.Sign(seed, other)
			if !slices.Equal(sig, wantSign(seed, other)) {
				t.Fatalf("bit %d of %x: not what the chapter makes of it", bit, other)
			}
			for i := range 256 {
				same := slices.Equal(sig[2*i:2*i+2], before[2*i:2*i+2])
				if same != (i != bit) {
					t.Fatalf("bit %d of %x: place %d is as before: %v", bit, other, i, same)
				}
			}
		}
	}
}

// A digest and the one with every bit unlike: together they show each secret, and each leaf, once; the secret is first.
func TestBothSidesOfEveryPlace(t *testing.T) {
	seed, m := api.Digest{1}, rising()
	unlike := m
	for i := range unlike {
		unlike[i] ^= 255
	}
	a, b := once.Sign(seed, m), once.Sign(seed, unlike)
	seen := map[api.Digest]bool{}
	for i := range 256 {
		if wantLeaf(a[2*i]) != b[2*i+1] || wantLeaf(b[2*i]) != a[2*i+1] {
			t.Errorf("place %d: a leaf is not that of the other one's secret", i)
		}
		for _, d := range []api.Digest{a[2*i], a[2*i+1], b[2*i], b[2*i+1]} {
			if seen[d] {
				t.Errorf("place %d: %x stands there twice", i, d)
			}
			seen[d] = true
		}
	}
}

// The secret of a bit that the digest has not is never shown.
func TestOtherSecretsAreNotShown(t *testing.T) {
	for _, seed := range seeds() {
		for _, m := range texts() {
			sig := once.Sign(seed, m)
			for i := range 256 {
				if slices.Contains(sig, wantSecret(seed, i, 1-bitOf(m, i))) {
					t.Errorf("%x by %x: place %d shows the other secret", m, seed, i)
				}
			}
		}
	}
}

// ON2: Recover.

func TestRecoverOfSign(t *testing.T) {
	for _, seed := range seeds() {
		want := once.Public(seed)
		for _, m := range texts() {
			if got := recovered(t, m, once.Sign(seed, m)); got != want {
				t.Errorf("%x by %x: got %x, want %x", m, seed, got, want)
			}
		}
	}
}

func TestRecoverOfSignOfEveryBit(t *testing.T) {
	seed := api.Digest{1}
	want := once.Public(seed)
	for bit := range 256 {
		for _, m := range []api.Digest{flip(api.Digest{}, bit), flip(full(255), bit)} {
			if got := recovered(t, m, once.Sign(seed, m)); got != want {
				t.Errorf("%x: got %x, want %x", m, got, want)
			}
		}
	}
}

// Keys that another program has told of 512 digests of which nobody knows a seed.
func TestToldRecovers(t *testing.T) {
	cases := []struct {
		m    api.Digest
		want string
	}{
		{api.Digest{}, "a37ea3f80a7603cc5ce756e5836b8843b2aca93e3e956ddedd24496003dc44a5"},
		{full(255), "7ed54029caeb670b98e926b4220a0bf35c932124fbbb131099142a642a20d4ad"},
		{rising(), "05a175d23a232c4e537980927286ee55f9548ffaac52e4e23eb51706a2a83d2b"},
	}
	for _, c := range cases {
		if d := recovered(t, c.m, make([]api.Digest, 512)); octet.Hex(d[:]) != c.want {
			t.Errorf("%x: got %x, want %s", c.m, d, c.want)
		}
	}
}

// One digest changed, at each place, makes another key: the one that the chapter makes of it.
func TestRecoverOfOneChanged(t *testing.T) {
	seed, m := api.Digest{1}, rising()
	sig, public := once.Sign(seed, m), once.Public(seed)
	for at := range sig {
		changed := slices.Clone(sig)
		changed[at] = flip(changed[at], at%256)
		got := recovered(t, m, changed)
		if got == public {
			t.Errorf("digest %d changed: it is still the seed's Public", at)
		}
		if want := wantRecover(m, changed); got != want {
			t.Errorf("digest %d changed: got %x, want %x", at, got, want)
		}
	}
}

// The two digests of a place in the other order, and two places in the other order.
func TestRecoverOfOtherOrders(t *testing.T) {
	seed, m := api.Digest{1}, rising()
	sig, public := once.Sign(seed, m), once.Public(seed)
	for at := range sig {
		turned := slices.Clone(sig)
		next := (at + 1) % len(sig)
		turned[at], turned[next] = turned[next], turned[at]
		got := recovered(t, m, turned)
		if want := wantRecover(m, turned); got != want || got == public {
			t.Errorf("digests %d and %d turned: got %x, want %x", at, next, got, want)
		}
	}
}

// Another digest's signature, of which a single bit is another, at each place.
func TestRecoverOfAnotherDigest(t *testing.T) {
	seed, m := api.Digest{1}, rising()
	sig, public := once.Sign(seed, m), once.Public(seed)
	for bit := range 256 {
		other := flip(m, bit)
		got := recovered(t, other, sig)
		if want := wantRecover(other, sig); got != want || got == public {
			t.Errorf("bit %d: got %x, want %x, and not %x", bit, got, want, public)
		}
	}
	for _, other := range texts() {
		if got := recovered(t, other, sig); other != m && got == public {
			t.Errorf("the signature of %x is one of %x", m, other)
		}
	}
}

// Another seed's signature is one by that seed.
func TestRecoverOfAnotherSeed(t *testing.T) {
	m := rising()
	seen := map[api.Digest]bool{}
	for _, seed := range seeds() {
		got := recovered(t, m, once.Sign(seed, m))
		if seen[got] {
			t.Errorf("%x has the Public of another seed", seed)
		}
		seen[got] = true
	}
}

func TestRecoverOfOtherCounts(t *testing.T) {
	m := rising()
	sig := once.Sign(api.Digest{1}, m)
	long := slices.Concat(sig, sig, sig)
	for n := range len(long) + 1 {
		if n == 512 {
			continue
		}
		if got, err := once.Recover(m, long[:n]); plain.Told(err) != api.ErrLength || got != (api.Digest{}) {
			t.Fatalf("%d digests: got %x and %v", n, got, err)
		}
	}
	for _, n := range []int{0, 1, 256, 511, 513, 1024, 512 * 256, 1<<16 + 512} {
		for _, m := range texts() {
			if got, err := once.Recover(m, make([]api.Digest, n)); plain.Told(err) != api.ErrLength || got != (api.Digest{}) {
				t.Errorf("%d digests: got %x and %v", n, got, err)
			}
		}
	}
	if got, err := once.Recover(m, nil); plain.Told(err) != api.ErrLength || got != (api.Digest{}) {
		t.Errorf("nil: got %x and %v", got, err)
	}
}

// P2, P4: what is handed in stays, with what lies behind its length, and is not kept; what comes out is fresh.

func TestArgumentsStay(t *testing.T) {
	seed, m := api.Digest{1}, rising()
	want := once.Public(seed)
	room := append(once.Sign(seed, m), full(7), full(8))
	before := slices.Clone(room)
	if got := recovered(t, m, room[:512]); got != want {
		t.Errorf("what lies behind the signature counts: got %x, want %x", got, want)
	}
	for _, n := range []int{0, 511, 513} {
		if _, err := once.Recover(m, room[:n]); plain.Told(err) != api.ErrLength {
			t.Errorf("%d digests, more behind them: %v", n, err)
		}
	}
	if !slices.Equal(room, before) {
		t.Error("the signature was written into")
	}
}

func TestAnswersAreFresh(t *testing.T) {
	seed, m := api.Digest{1}, rising()
	first := once.Sign(seed, m)
	want := joined(first)
	second := once.Sign(seed, m)
	clear(first[:cap(first)])
	if !bytes.Equal(joined(second), want) {
		t.Error("two signatures share memory")
	}
	if third := once.Sign(seed, m); !bytes.Equal(joined(third), want) {
		t.Error("a signature hangs on what was done with another")
	}
}
