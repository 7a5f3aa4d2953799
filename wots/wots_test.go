package wots_test

import (
	"bytes"
	"crypto/hmac"
	"crypto/sha256"
	"slices"
	"testing"

	"oathbook/api"
	"oathbook/chain"
	"oathbook/mac"
	"oathbook/octet"
	"oathbook/plain"
	"oathbook/sha"
	"oathbook/wots"
)

// rising: a digest whose bytes are 0 to 31.
func rising() api.Digest {
	var d api.Digest
	for i := range d {
		d[i] = byte(i)
	}
	return d
}

// full: a digest whose bytes are all x.
func full(x byte) api.Digest {
	var d api.Digest
	for i := range d {
		d[i] = x
	}
	return d
}

// seeds: digests to begin with, the smallest and the greatest among them.
func seeds() []api.Digest {
	return []api.Digest{{}, {1}, {31: 1}, rising(), full(255)}
}

// texts: digests to sign; each place has a digit 0 and a digit 15 in one of them, beside others.
func texts() []api.Digest {
	return []api.Digest{{}, full(255), full(0x0f), full(0xf0), full(0x5a), {18}, {31: 1}, rising(), sha256.Sum256([]byte("abc"))}
}

// flip: the digest with its bit i another one.
func flip(d api.Digest, i int) api.Digest {
	d[i/8] ^= 128 >> (i % 8)
	return d
}

// wantDigits: the chapter's Digits, by halves of bytes as Hex has them.
func wantDigits(m api.Digest) []int {
	var digits []int
	sum := 0
	for _, c := range octet.Hex(m[:]) {
		x := int(c - '0')
		if c >= 'a' {
			x = int(c-'a') + 10
		}
		digits = append(digits, x)
		sum += 15 - x
	}
	return append(digits, sum/256, sum%256/16, sum%16)
}

// wantWalk: what Go's own library tells of a byte 8 and the digest, so many times.
func wantWalk(d api.Digest, n int) api.Digest {
	for range n {
		d = sha256.Sum256(append([]byte{8}, d[:]...))
	}
	return d
}

// wantSecret: what Go's own library tells of the bytes 5 and i with the seed as key.
func wantSecret(seed api.Digest, i int) api.Digest {
	h := hmac.New(sha256.New, seed[:])
	h.Write([]byte{5, byte(i)})
	return api.Digest(h.Sum(nil))
}

// wantKey: what Go's own library tells of a byte 7 and the ends of all chains.
func wantKey(ends []api.Digest) api.Digest {
	return sha256.Sum256(append([]byte{7}, joined(ends)...))
}

// wantPublic: the chapter's Public of a seed.
func wantPublic(seed api.Digest) api.Digest {
	var ends []api.Digest
	for i := range 67 {
		ends = append(ends, wantWalk(wantSecret(seed, i), 15))
	}
	return wantKey(ends)
}

// wantSign: the chapter's Sign.
func wantSign(seed, m api.Digest) []api.Digest {
	var sig []api.Digest
	for i, n := range wantDigits(m) {
		sig = append(sig, wantWalk(wantSecret(seed, i), n))
	}
	return sig
}

// wantRecover: the chapter's Recover of 67 digests.
func wantRecover(m api.Digest, sig []api.Digest) api.Digest {
	var ends []api.Digest
	for i, n := range wantDigits(m) {
		ends = append(ends, wantWalk(sig[i], 15-n))
	}
	return wantKey(ends)
}

// recovered: what Recover tells, where it must tell something.
func recovered(t *testing.T, m api.Digest, sig []api.Digest) api.Digest {
	t.Helper()
	got, err := wots.Recover(m, sig)
	if err != nil {
		t.Fatalf("Recover of %d: %v", len(sig), err)
	}
	return got
}

// joined: the bytes of digests, one behind the other.
func joined(ds []api.Digest) []byte {
	var b []byte
	for _, d := range ds {
		b = append(b, d[:]...)
	}
	return b
}

// WT1: Digits.

// Digits that are reckoned by hand: no part of the program is asked here.
func TestToldDigits(t *testing.T) {
	pairs := func(a, b int, last ...int) []int {
		return append(slices.Repeat([]int{a, b}, 32), last...)
	}
	eighteen := pairs(0, 0, 3, 11, 13)
	eighteen[0], eighteen[1] = 1, 2
	end := pairs(0, 0, 3, 11, 14)
	end[62], end[63] = 1, 1
	cases := []struct {
		m    api.Digest
		want []int
	}{
		{api.Digest{}, pairs(0, 0, 3, 12, 0)},
		{full(255), pairs(15, 15, 0, 0, 0)},
		{full(0x0f), pairs(0, 15, 1, 14, 0)},
		{full(0xf0), pairs(15, 0, 1, 14, 0)},
		{full(0x12), pairs(1, 2, 3, 6, 0)},
		{full(0xfe), pairs(15, 14, 0, 2, 0)},
		{api.Digest{18}, eighteen},
		{api.Digest{31: 17}, end},
	}
	for _, c := range cases {
		if got := wots.Digits(c.m); !slices.Equal(got, c.want) {
			t.Errorf("%x: got %v, want %v", c.m, got, c.want)
		}
	}
}

func TestDigits(t *testing.T) {
	for _, m := range slices.Concat(texts(), seeds()) {
		if got, want := wots.Digits(m), wantDigits(m); !slices.Equal(got, want) {
			t.Errorf("%x: got %v, want %v", m, got, want)
		}
	}
}

// Each byte, at each place, among bytes 0 and among bytes 255.
func TestDigitsOfEveryByte(t *testing.T) {
	for at := range 32 {
		for x := range 256 {
			for _, m := range []api.Digest{{}, full(255)} {
				m[at] = byte(x)
				got := wots.Digits(m)
				if !slices.Equal(got, wantDigits(m)) {
					t.Fatalf("%x: got %v, want %v", m, got, wantDigits(m))
				}
			}
		}
	}
}

// What the digits lack goes by one from 0 to 960: the last three tell each of these numbers.
func TestDigitsOfEverySum(t *testing.T) {
	m := full(255)
	for lack := range 961 {
		got := wots.Digits(m)
		if len(got) != 67 {
			t.Fatalf("%x: %d digits", m, len(got))
		}
		if told := 256*got[64] + 16*got[65] + got[66]; told != lack {
			t.Errorf("%x lacks %d, told are %d", m, lack, told)
		}
		for i, x := range got {
			if x < 0 || x > 15 {
				t.Errorf("%x: digit %d is %d", m, i, x)
			}
		}
		takeOne(&m)
	}
}

// takeOne: makes one digit that is not 0 smaller by one.
func takeOne(m *api.Digest) {
	for i, x := range m {
		if x%16 > 0 {
			m[i]--
			return
		}
		if x > 0 {
			m[i] -= 16
			return
		}
	}
}

// Of two digests each has a digit that is below the other's: no signature is walked on to another digest's.
func TestNoDigestIsAboveAnother(t *testing.T) {
	all := texts()
	for bit := range 256 {
		all = append(all, flip(rising(), bit))
	}
	for _, a := range all {
		for _, b := range all {
			if a != b && !someBelow(wots.Digits(a), wots.Digits(b)) {
				t.Errorf("each digit of %x is at least that of %x", a, b)
			}
		}
	}
}

// someBelow: whether a number of a is below the one of b at its place.
func someBelow(a, b []int) bool {
	for i := range a {
		if a[i] < b[i] {
			return true
		}
	}
	return false
}

// WT2: Public.

// Keys that another program has told of the chapter's words: no library is asked here.
func TestToldPublics(t *testing.T) {
	told := []string{
		"c3dc45150a3dc469d61509f9e7927de35d13a381b3833f5cf5fe5b8d67942889",
		"0d4e5248442f4a83741cbc5c64c629181ed61bfac7fd0a12a38a992c4fc2decf",
		"cb8a7e65d795b5746d62ac0c6ca708c2d86e528cdaf88c28ef7ea3c20dc831ec",
		"568d6a194a7ff606a2ee2ecaf422e960b630d909b8c56255e2b85821fd3dfae3",
		"50e09b961ce1c93ec5cc21f25233657f5c0bae036ca4c0a67d7ce3c023e14375",
	}
	for i, seed := range seeds() {
		if d := wots.Public(seed); octet.Hex(d[:]) != told[i] {
			t.Errorf("Public of %x: got %x, want %s", seed, d, told[i])
		}
	}
}

func TestPublic(t *testing.T) {
	for _, seed := range slices.Concat(seeds(), texts()) {
		if got, want := wots.Public(seed), wantPublic(seed); got != want {
			t.Errorf("Public of %x: got %x, want %x", seed, got, want)
		}
	}
}

// The chapter's words, by the program's own Mac, Walk and Sum.
func TestPublicByMacWalkAndSum(t *testing.T) {
	for _, seed := range seeds() {
		all := []byte{7}
		for i := range 67 {
			end, err := chain.Walk(mac.Mac(seed[:], []byte{5, byte(i)}), 15)
			if err != nil {
				t.Fatal(err)
			}
			all = append(all, end[:]...)
		}
		if got, want := wots.Public(seed), sha.Sum(all); got != want {
			t.Errorf("Public of %x: got %x, want %x", seed, got, want)
		}
	}
}

// Each bit of a seed counts.
func TestPublicOfEveryBit(t *testing.T) {
	seen := map[api.Digest]int{wots.Public(api.Digest{}): -1}
	for bit := range 256 {
		seed := flip(api.Digest{}, bit)
		got := wots.Public(seed)
		if want := wantPublic(seed); got != want {
			t.Errorf("a seed of bit %d: got %x, want %x", bit, got, want)
		}
		if other, ok := seen[got]; ok {
			t.Errorf("seeds of the bits %d and %d have one Public", bit, other)
		}
		seen[got] = bit
	}
}

// WT2: Sign.

// Signatures that another program has told: some of their digests, and Sum of all of them.
func TestToldSignatures(t *testing.T) {
	cases := []struct {
		seed, m          api.Digest
		first, last, all string
	}{
		{api.Digest{}, api.Digest{},
			"0c5a82c2a8b8757e2b7e0a4c9237dd6f5501b5eaf68686e20a45df3eced42d59",
			"93e366b2749990d354188ad945478a172c33d9feb57c135dee0211a372a6c2f0",
			"ecbacbfc7bc57cb4fda1c4bab5d3e2ad1b124d61049f10352b1e3a9bd8787f13"},
		{api.Digest{1}, api.Digest{2},
			"1129b4aa11b858ba367ab11c47091e4c2d9d50f7364da05052bb443b11499d72",
			"9d1eb9530145c4fe196716d5f5d43abd50d6ab865acf629cca82a65d0805b9f7",
			"56f450070da0b05959833b6b193dba5c74068aeb38d47a0dcdd8bc09f50f93ed"},
		{rising(), rising(),
			"96b478b9ca5b84b8b05c0b4465405304579254a77e9d340db4108d6d5749fe7d",
			"57e878ab8c7a8da70bf0dadad5629acbaaa48042eeaff72e4a6910348c1b40d1",
			"32043674055d1191cab40afc43ec197c7c27a0007c5ca80101c218b4a7c4a6f2"},
		{full(255), full(255),
			"eda38803bd7c8965ca3ca5c3d379f8e83e567a43e8161c3a6b47ed288fdcb2cd",
			"b744856fe8df9e3864bbb56a382f9b4a2bb05ac956d461ea1bbe6a4493315e18",
			"9953d56b54bd1bb34b0e7a705c730b0b6c23e44756d83582e9e04d9815e95c74"},
	}
	for _, c := range cases {
		sig := wots.Sign(c.seed, c.m)
		if len(sig) != 67 {
			t.Fatalf("%x by %x: %d digests", c.m, c.seed, len(sig))
		}
		all := sha256.Sum256(joined(sig))
		for name, pair := range map[string][2]string{
			"first": {octet.Hex(sig[0][:]), c.first},
			"last":  {octet.Hex(sig[66][:]), c.last},
			"all":   {octet.Hex(all[:]), c.all},
		} {
			if pair[0] != pair[1] {
				t.Errorf("%x by %x, %s: got %s, want %s", c.m, c.seed, name, pair[0], pair[1])
			}
		}
	}
}

func TestSign(t *testing.T) {
	for _, seed := range seeds() {
		for _, m := range texts() {
			got, want := wots.Sign(seed, m), wantSign(seed, m)
			if len(got) != 67 || len(want) != 67 {
				t.Fatalf("%x by %x: %d digests, want %d", m, seed, len(got), len(want))
			}
			for i := range want {
				if got[i] != want[i] {
					t.Fatalf("%x by %x, place %d: got %x, want %x", m, seed, i, got[i], want[i])
				}
			}
		}
	}
}

// Each digit at each place of a digest's own: as many steps from the secret, which digit 0 shows and digit 15 has at the end.
func TestSignOfEveryDigit(t *testing.T) {
	seed := rising()
	for place := range 64 {
		for digit := range 16 {
			m := full(0x77)
			if place%2 == 0 {
				m[place/2] = byte(16*digit + 7)
			} else {
				m[place/2] = byte(7*16 + digit)
			}
			sig := wots.Sign(seed, m)
			if got, want := sig[place], wantWalk(wantSecret(seed, place), digit); got != want {
				t.Errorf("place %d, digit %d: got %x, want %x", place, digit, got, want)
			}
			if !slices.Equal(sig, wantSign(seed, m)) {
				t.Errorf("place %d, digit %d: not what the chapter makes of it", place, digit)
			}
		}
	}
}

// A signature shows a secret where the digit is 0 alone, and no end but where it is 15.
func TestSecretsAndEndsThatAreShown(t *testing.T) {
	for _, seed := range seeds() {
		for _, m := range texts() {
			sig, digits := wots.Sign(seed, m), wantDigits(m)
			for i, digit := range digits {
				secret := wantSecret(seed, i)
				if slices.Contains(sig, secret) != (digit == 0) {
					t.Errorf("%x by %x: place %d has digit %d, and shows its secret or not", m, seed, i, digit)
				}
				if slices.Contains(sig, wantWalk(secret, 15)) != (digit == 15) {
					t.Errorf("%x by %x: place %d has digit %d, and shows its end or not", m, seed, i, digit)
				}
			}
		}
	}
}

// WT2: Recover.

func TestRecoverOfSign(t *testing.T) {
	for _, seed := range seeds() {
		want := wots.Public(seed)
		for _, m := range texts() {
			if got := recovered(t, m, wots.Sign(seed, m)); got != want {
				t.Errorf("%x by %x: got %x, want %x", m, seed, got, want)
			}
		}
	}
}

func TestRecoverOfSignOfEveryBit(t *testing.T) {
	seed := api.Digest{1}
	want := wots.Public(seed)
	for bit := range 256 {
		for _, m := range []api.Digest{flip(api.Digest{}, bit), flip(full(255), bit)} {
			if got := recovered(t, m, wots.Sign(seed, m)); got != want {
				t.Errorf("%x: got %x, want %x", m, got, want)
			}
		}
	}
}

// Keys that another program has told of 67 digests of which nobody knows a seed.
func TestToldRecovers(t *testing.T) {
	cases := []struct {
		m    api.Digest
		want string
	}{
		{api.Digest{}, "a79a5a810ee7d786da9353c9825a6e661c633a8be3834d6e3a95c632625162d4"},
		{full(255), "ef304cd3b59734ec623b7b4886b85e14aa8e47faea7fa80b017858ec85b2366c"},
		{rising(), "2d47e551c823850495cf44577658e37be7f2ad48b6beb8eef2905fca8692600d"},
	}
	for _, c := range cases {
		if d := recovered(t, c.m, make([]api.Digest, 67)); octet.Hex(d[:]) != c.want {
			t.Errorf("%x: got %x, want %s", c.m, d, c.want)
		}
	}
}

// One digest changed, at each place, makes another key: the one that the chapter makes of it.
func TestRecoverOfOneChanged(t *testing.T) {
	seed := api.Digest{1}
	public := wots.Public(seed)
	for _, m := range texts() {
		sig := wots.Sign(seed, m)
		for at := range sig {
			changed := slices.Clone(sig)
			changed[at] = flip(changed[at], (37*at)%256)
			got := recovered(t, m, changed)
			if got == public {
				t.Errorf("%x, digest %d changed: it is still the seed's Public", m, at)
			}
			if want := wantRecover(m, changed); got != want {
				t.Errorf("%x, digest %d changed: got %x, want %x", m, at, got, want)
			}
		}
	}
}

// A digest that is walked on by one who has no seed fits no place but that of a greater digit.
func TestRecoverOfOneWalkedOn(t *testing.T) {
	seed, m := api.Digest{1}, rising()
	sig, public := wots.Sign(seed, m), wots.Public(seed)
	for at := range sig {
		changed := slices.Clone(sig)
		changed[at] = wantWalk(changed[at], 1)
		got := recovered(t, m, changed)
		if want := wantRecover(m, changed); got != want || got == public {
			t.Errorf("digest %d walked on: got %x, want %x, and not %x", at, got, want, public)
		}
	}
}

func TestRecoverOfOtherOrders(t *testing.T) {
	seed, m := api.Digest{1}, rising()
	sig, public := wots.Sign(seed, m), wots.Public(seed)
	for at := range sig {
		turned := slices.Clone(sig)
		next := (at + 1) % len(sig)
		turned[at], turned[next] = turned[next], turned[at]
		got := recovered(t, m, turned)
		if want := wantRecover(m, turned); got != want || got == public {
			t.Errorf("digests %d and %d turned: got %x, want %x", at, next, got, want)
		}
	}
}

// Another digest's signature, of which a single bit is another, at each place.
func TestRecoverOfAnotherDigest(t *testing.T) {
	seed, m := api.Digest{1}, rising()
	sig, public := wots.Sign(seed, m), wots.Public(seed)
	for bit := range 256 {
		other := flip(m, bit)
		got := recovered(t, other, sig)
		if want := wantRecover(other, sig); got != want || got == public {
			t.Errorf("bit %d: got %x, want %x, and not %x", bit, got, want, public)
		}
	}
	for _, other := range texts() {
		if got := recovered(t, other, sig); other != m && got == public {
			t.Errorf("the signature of %x is one of %x", m, other)
		}
	}
}

// Another seed's signature is one by that seed.
func TestRecoverOfAnotherSeed(t *testing.T) {
	m := rising()
	seen := map[api.Digest]bool{}
	for _, seed := range seeds() {
		got := recovered(t, m, wots.Sign(seed, m))
		if seen[got] {
			t.Errorf("%x has the Public of another seed", seed)
		}
		seen[got] = true
	}
}

func TestRecoverOfOtherCounts(t *testing.T) {
	m := rising()
	sig := wots.Sign(api.Digest{1}, m)
	long := slices.Repeat(sig, 10)
	for n := range len(long) + 1 {
		if n == 67 {
			continue
		}
		if got, err := wots.Recover(m, long[:n]); plain.Told(err) != api.ErrLength || got != (api.Digest{}) {
			t.Fatalf("%d digests: got %x and %v", n, got, err)
		}
	}
	for _, n := range []int{0, 1, 64, 66, 68, 134, 256 + 67, 512, 1<<16 + 67} {
		for _, m := range texts() {
			if got, err := wots.Recover(m, make([]api.Digest, n)); plain.Told(err) != api.ErrLength || got != (api.Digest{}) {
				t.Errorf("%d digests: got %x and %v", n, got, err)
			}
		}
	}
	if got, err := wots.Recover(m, nil); plain.Told(err) != api.ErrLength || got != (api.Digest{}) {
		t.Errorf("nil: got %x and %v", got, err)
	}
}

// P2, P4: what is handed in stays, with what lies behind its length, and is not kept; what comes out is fresh.

func TestArgumentsStay(t *testing.T) {
	seed, m := api.Digest{1}, rising()
	want := wots.Public(seed)
	room := append(wots.Sign(seed, m), full(7), full(8))
	before := slices.Clone(room)
	if got := recovered(t, m, room[:67]); got != want {
		t.Errorf("what lies behind the signature counts: got %x, want %x", got, want)
	}
	for _, n := range []int{0, 66, 68} {
		if _, err := wots.Recover(m, room[:n]); plain.Told(err) != api.ErrLength {
			t.Errorf("%d digests, more behind them: %v", n, err)
		}
	}
	if !slices.Equal(room, before) {
		t.Error("the signature was written into")
	}
}

func TestSignaturesAreFresh(t *testing.T) {
	seed, m := api.Digest{1}, rising()
	first := wots.Sign(seed, m)
	want := joined(first)
	second := wots.Sign(seed, m)
	clear(first[:cap(first)])
	if !bytes.Equal(joined(second), want) {
		t.Error("two signatures share memory")
	}
	if third := wots.Sign(seed, m); !bytes.Equal(joined(third), want) {
		t.Error("a signature hangs on what was done with another")
	}
}

func TestDigitsAreFresh(t *testing.T) {
	m := rising()
	first, second := wots.Digits(m), wots.Digits(m)
	clear(first[:cap(first)])
	if !slices.Equal(second, wantDigits(m)) {
		t.Error("two lists of digits share memory")
	}
	if third := wots.Digits(m); !slices.Equal(third, wantDigits(m)) {
		t.Error("digits hang on what was done with others")
	}
}
