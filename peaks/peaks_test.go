package peaks_test

import (
	"crypto/sha256"
	"math"
	"slices"
	"testing"

	"oathbook/api"
	"oathbook/octet"
	"oathbook/peaks"
	"oathbook/plain"
	"oathbook/tree"
)

// most: more leaves than these are out of range.
const most = 1 << 30

// full: a digest whose bytes are all x.
func full(x byte) api.Digest {
	var d api.Digest
	for i := range d {
		d[i] = x
	}
	return d
}

// flip: the digest with its bit i another one.
func flip(d api.Digest, i int) api.Digest {
	d[i/8] ^= 128 >> (i % 8)
	return d
}

// row: so many leaves, each of a byte that tells its place.
func row(n int) []api.Digest {
	var ls []api.Digest
	for i := range n {
		ls = append(ls, sha256.Sum256([]byte{0, byte(i)}))
	}
	return ls
}

// steps: so many digests that no leaves made: of bytes 1, of bytes 2, and so on.
func steps(n int) []api.Digest {
	var ds []api.Digest
	for i := range n {
		ds = append(ds, full(byte(i+1)))
	}
	return ds
}

// lists: several lists of leaves: of other bytes, all alike, every second one alike, and more than a tree of chapter 7 has.
func lists() [][]api.Digest {
	alike, turns, back := make([]api.Digest, 256), make([]api.Digest, 100), row(256)
	for i := range turns {
		turns[i] = full(byte(i % 2))
	}
	slices.Reverse(back)
	return [][]api.Digest{row(256), back, alike, turns, row(1), row(31), row(1100)}
}

// numbers: each up to 2000, and up to 2^30 powers of 2, those about them, and some with other bits.
func numbers() []int {
	var ns []int
	for n := range 2001 {
		ns = append(ns, n)
	}
	for j := 11; j <= 30; j++ {
		for _, off := range []int{-3, -2, -1, 0, 1, 2, 3} {
			ns = append(ns, 1<<j+off)
		}
	}
	// The bits of these are drawn by a rule, so that each run has the same ones.
	x := uint32(1)
	for range 2000 {
		x = x*1664525 + 1013904223
		ns = append(ns, int(x>>2))
	}
	return slices.DeleteFunc(ns, func(n int) bool { return n > most })
}

// outside: numbers of leaves that are out of range.
func outside() []int {
	return []int{-1, -2, -3, -255, -256, -most, -most - 1, -1 << 31, -1 << 32, math.MinInt, math.MinInt + 1,
		most + 1, most + 2, most + 3, 1<<31 - 1, 1 << 31, 1<<31 + 1, 1<<32 - 1, 1 << 32, 1<<32 + 1, 1<<32 + 3, 1 << 62, math.MaxInt - 1, math.MaxInt}
}

// wantNode: what Go's own library tells of a byte 1 and both digests.
func wantNode(l, r api.Digest) api.Digest {
	return sha256.Sum256(slices.Concat([]byte{1}, l[:], r[:]))
}

// wantSplit: the greatest power of 2 below n.
func wantSplit(n int) int {
	k := 1
	for 2*k < n {
		k *= 2
	}
	return k
}

// wantRoot: the Root of chapter 7, of any number of leaves.
func wantRoot(ls []api.Digest) api.Digest {
	if len(ls) == 0 {
		return sha256.Sum256(nil)
	}
	if len(ls) == 1 {
		return ls[0]
	}
	k := wantSplit(len(ls))
	return wantNode(wantRoot(ls[:k]), wantRoot(ls[k:]))
}

// counts: what each bit of n counts, the greatest first.
func counts(n int) []int {
	var all []int
	for j := 40; j >= 0; j-- {
		if n/(1<<j)%2 == 1 {
			all = append(all, 1<<j)
		}
	}
	return all
}

// wantPeaks: the Roots of as many leaves as the bits of their number count, one behind the other.
func wantPeaks(ls []api.Digest) []api.Digest {
	var all []api.Digest
	for _, count := range counts(len(ls)) {
		all, ls = append(all, wantRoot(ls[:count])), ls[count:]
	}
	return all
}

// hill: a peak, and of how many leaves it is.
type hill struct {
	count int
	d     api.Digest
}

// wantAdd: the peaks of n leaves and one more: where two are of as many leaves, they become their Node.
func wantAdd(n int, ps []api.Digest, l api.Digest) []api.Digest {
	var hills []hill
	for at, count := range counts(n) {
		hills = append(hills, hill{count, ps[at]})
	}
	hills = append(hills, hill{1, l})
	for last := len(hills) - 1; last > 0 && hills[last-1].count == hills[last].count; last-- {
		a, b := hills[last-1], hills[last]
		hills = append(hills[:last-1], hill{a.count + b.count, wantNode(a.d, b.d)})
	}
	var all []api.Digest
	for _, h := range hills {
		all = append(all, h.d)
	}
	return all
}

// wantWhole: the Root of n leaves, of which only the peaks are known, by the halvings of chapter 7.
func wantWhole(n int, ps []api.Digest) api.Digest {
	if n == 0 {
		return sha256.Sum256(nil)
	}
	if len(counts(n)) == 1 {
		return ps[0]
	}
	return wantNode(ps[0], wantWhole(n-wantSplit(n), ps[1:]))
}

// add: what Add tells, where it must tell something.
func add(t *testing.T, n int, ps []api.Digest, l api.Digest) []api.Digest {
	t.Helper()
	more, err := peaks.Add(n, ps, l)
	if err != nil {
		t.Fatalf("Add to %d leaves with %d peaks: %v", n, len(ps), err)
	}
	return more
}

// root: what Root tells, where it must tell something.
func root(t *testing.T, n int, ps []api.Digest) api.Digest {
	t.Helper()
	d, err := peaks.Root(n, ps)
	if err != nil {
		t.Fatalf("Root of %d leaves with %d peaks: %v", n, len(ps), err)
	}
	return d
}

// grown: the peaks of leaves that came one behind the other.
func grown(t *testing.T, ls []api.Digest) []api.Digest {
	t.Helper()
	var ps []api.Digest
	for i, l := range ls {
		ps = add(t, i, ps, l)
	}
	return ps
}

// wantNone: both calls tell this error, and nothing beside it.
func wantNone(t *testing.T, n int, ps []api.Digest, want api.Errno) {
	t.Helper()
	if more, err := peaks.Add(n, ps, full(7)); plain.Told(err) != want || len(more) != 0 {
		t.Fatalf("Add to %d leaves with %d peaks: got %x and %v, want %v", n, len(ps), more, err, want)
	}
	if d, err := peaks.Root(n, ps); plain.Told(err) != want || d != (api.Digest{}) {
		t.Fatalf("Root of %d leaves with %d peaks: got %x and %v, want %v", n, len(ps), d, err, want)
	}
}

// PK1: of leaves that came one behind the other.

// Peaks and Roots that another program has told of the chapter's words: no library is asked here.
func TestToldPeaks(t *testing.T) {
	cases := []struct {
		n    int
		want []string
		root string
	}{
		{0, nil, "e3b0c44298fc1c149afbf4c8996fb92427ae41e4649b934ca495991b7852b855"},
		{1, []string{
			"96a296d224f285c67bee93c30f8a309157f0daa35dc5b87e410b78630a09cfc7",
		}, "96a296d224f285c67bee93c30f8a309157f0daa35dc5b87e410b78630a09cfc7"},
		{2, []string{
			"a20bf9a7cc2dc8a08f5f415a71b19f6ac427bab54d24eec868b5d3103449953a",
		}, "a20bf9a7cc2dc8a08f5f415a71b19f6ac427bab54d24eec868b5d3103449953a"},
		{3, []string{
			"a20bf9a7cc2dc8a08f5f415a71b19f6ac427bab54d24eec868b5d3103449953a",
			"fcf0a6c700dd13e274b6fba8deea8dd9b26e4eedde3495717cac8408c9c5177f",
		}, "3b6cccd7e3e023ff393006f030315ee7ad9eb111b022b41fba7e5b7a3973f688"},
		{5, []string{
			"9bcd51240af4005168f033121ba85be5a6ed4f0e6a5fac262066729b8fbfdecb",
			"4f35212d12f9ad2036492c95f1fe79baf4ec7bd9bef3dffa7579f2293ff546a4",
		}, "b855b42d6c30f5b087e05266783fbd6e394f7b926013ccaa67700a8b0c5a596f"},
		{7, []string{
			"9bcd51240af4005168f033121ba85be5a6ed4f0e6a5fac262066729b8fbfdecb",
			"4b8c129ed14cce2c08cfc6766db7f8cdb133b5f698b8de3d5890ea7ff7f0a8d1",
			"40d88127d4d31a3891f41598eeed41174e5bc89b1eb9bbd66a8cbfc09956a3fd",
		}, "3560191803028444b232018ac047fdb561c09c23a7a6876c85e08b5e4d48e9f3"},
		{8, []string{
			"ef7f49b620f6c7ea9b963a214da34b5021c6ded8ed57734380a311ab726aa907",
		}, "ef7f49b620f6c7ea9b963a214da34b5021c6ded8ed57734380a311ab726aa907"},
		{100, []string{
			"4433a69f32158463382405ec957c31b8bc89a1f08964b920f6cf53dc13098cb3",
			"3d45f484d03abce847253524f31c43ce123c7ba49d0a1c876016b650bea8f410",
			"6e29a6b6b70d44104b43558420ca21380982bd6b455c4d6b7787f5c77025a9a4",
		}, "9eccc8f11ab3ecd41cbf41f5045df576dcedc60f44d4a3de5f40b7d4f7e9d7e3"},
		{255, []string{
			"ec2904d816d8b08fbd3773a0ebe5bbe677eba157f28b35be83b8cefc297fe153",
			"4af5be83a535882ef75b295808293a9467f415a41c364556c9b6fe2e60d2e176",
			"9128df7de928f726b50fdc71b71f826223f70d991c060fbb06b95358cb68aa3f",
			"2c7a3d6c45076cef44f8483bfbc74191d6961011092c0b79586aac112836a715",
			"b69c872c2041359328bfa7fe615f350494a4d143dc3b8cc3eec0f09aa66d58e1",
			"fb96943b7bf1ce33597bf3eb57c602e2935a04faa7db1baefbba859f30516aac",
			"839eeb100587c3436ed0e6fa537f8d5dcdf7594e449ad9be7306b2aa07d59f18",
			"dcc3494d498009f15481bc423aeabcc2f8f5b0e6109192491eda8458032c8db6",
		}, "109456304c2c861619b325bb795c95ed9afc6c27bef892d86f2d88356e9f5bcd"},
		{256, []string{
			"0387b1bfaad194ad5b534d6a57c9710a83484cb544258df5f4df94bc41820b5f",
		}, "0387b1bfaad194ad5b534d6a57c9710a83484cb544258df5f4df94bc41820b5f"},
	}
	for _, c := range cases {
		ps := grown(t, row(c.n))
		var got []string
		for _, d := range ps {
			got = append(got, octet.Hex(d[:]))
		}
		if !slices.Equal(got, c.want) {
			t.Errorf("%d leaves: got %q, want %q", c.n, got, c.want)
		}
		if d := root(t, c.n, ps); octet.Hex(d[:]) != c.root {
			t.Errorf("%d leaves: got Root %x, want %s", c.n, d, c.root)
		}
	}
}

// Small trees, written out by Node.
func TestPeaksOfFew(t *testing.T) {
	node := tree.Node
	ls := row(9)
	a, b, c, d, e, f, g, h, i := ls[0], ls[1], ls[2], ls[3], ls[4], ls[5], ls[6], ls[7], ls[8]
	ab, ef := node(a, b), node(e, f)
	abcd := node(ab, node(c, d))
	all := node(abcd, node(ef, node(g, h)))
	type list = []api.Digest
	cases := []struct {
		want list
		root api.Digest
	}{
		{nil, sha256.Sum256(nil)},
		{list{a}, a},
		{list{ab}, ab},
		{list{ab, c}, node(ab, c)},
		{list{abcd}, abcd},
		{list{abcd, e}, node(abcd, e)},
		{list{abcd, ef}, node(abcd, ef)},
		{list{abcd, ef, g}, node(abcd, node(ef, g))},
		{list{all}, all},
		{list{all, i}, node(all, i)},
	}
	for n, c := range cases {
		ps := grown(t, ls[:n])
		if !slices.Equal(ps, c.want) {
			t.Errorf("%d leaves: got %x, want %x", n, ps, c.want)
		}
		if got := root(t, n, ps); got != c.root {
			t.Errorf("%d leaves: got Root %x, want %x", n, got, c.root)
		}
	}
}

// Behind each leaf the peaks are as the chapter says, and their Root is that of all leaves so far.
func TestAddFromNoneOn(t *testing.T) {
	for at, ls := range lists() {
		var ps []api.Digest
		for n := range len(ls) + 1 {
			if n > 0 {
				ps = add(t, n-1, ps, ls[n-1])
			}
			if want := wantPeaks(ls[:n]); !slices.Equal(ps, want) {
				t.Fatalf("list %d, %d leaves: got %x, want %x", at, n, ps, want)
			}
			if got, want := root(t, n, ps), wantRoot(ls[:n]); got != want {
				t.Fatalf("list %d, %d leaves: got Root %x, want %x", at, n, got, want)
			}
		}
	}
}

// The same beside the Roots that the program itself tells.
func TestPeaksBesideTree(t *testing.T) {
	for n := range api.MaxLeaves + 1 {
		ls := row(n)
		ps := grown(t, ls)
		if want, err := tree.Root(ls); err != nil || root(t, n, ps) != want {
			t.Errorf("%d leaves: got Root %x, want %x and %v", n, root(t, n, ps), want, err)
		}
		rest := ls
		for at, count := range counts(n) {
			if want, err := tree.Root(rest[:count]); err != nil || ps[at] != want {
				t.Errorf("%d leaves, peak %d: got %x, want %x and %v", n, at, ps[at], want, err)
			}
			rest = rest[count:]
		}
	}
}

func TestPeaksOfNone(t *testing.T) {
	for _, none := range [][]api.Digest{nil, {}, row(3)[:0]} {
		if got := root(t, 0, none); got != sha256.Sum256(nil) {
			t.Errorf("Root of none: got %x", got)
		}
		for _, l := range []api.Digest{{}, full(1), full(255)} {
			if got := add(t, 0, none, l); !slices.Equal(got, []api.Digest{l}) {
				t.Errorf("Add of %x to none: got %x", l, got)
			}
		}
	}
}

// PK1: of peaks that no leaves made.

// What another program has told of peaks of bytes 1, 2, and so on, and a leaf of bytes 200: how many peaks Add tells, the last of them, and the Root ahead of it.
func TestToldNumbers(t *testing.T) {
	cases := []struct {
		n, length  int
		last, root string
	}{
		{0, 1, "c8c8c8c8c8c8c8c8c8c8c8c8c8c8c8c8c8c8c8c8c8c8c8c8c8c8c8c8c8c8c8c8", "e3b0c44298fc1c149afbf4c8996fb92427ae41e4649b934ca495991b7852b855"},
		{1, 1, "b11d745603d502e0aee78fece4496beebf9a901a35d89dd9d7f0bb7c09ba5b14", "0101010101010101010101010101010101010101010101010101010101010101"},
		{2, 2, "c8c8c8c8c8c8c8c8c8c8c8c8c8c8c8c8c8c8c8c8c8c8c8c8c8c8c8c8c8c8c8c8", "0101010101010101010101010101010101010101010101010101010101010101"},
		{3, 1, "8255c851867732fcd8abd5b72e9984ff19ca4da13785d389d658e4360cb06637", "b331da6ec49d4547d9942a6727e5123f69bed5a0b97ac171cfbfd6201431fcfa"},
		{6, 3, "c8c8c8c8c8c8c8c8c8c8c8c8c8c8c8c8c8c8c8c8c8c8c8c8c8c8c8c8c8c8c8c8", "b331da6ec49d4547d9942a6727e5123f69bed5a0b97ac171cfbfd6201431fcfa"},
		{7, 1, "e6de0789e1c8b1c808e49c7d0d674c63a4672af90b0bbd920d3187bc2f2c81c7", "160af055ded2a117bd9339706528fca2abb32d61c29c60a38565724786041480"},
		{11, 2, "f45e75cfea8d15b3ef6aa4059860f7c6fcec1a204b3d8e100680fecca8cef061", "160af055ded2a117bd9339706528fca2abb32d61c29c60a38565724786041480"},
		{255, 1, "1485097e416d6d44b76d68e9ea2237b81f6337ba4817df2ed411b86ab509e253", "27429fb62c367a91656c22f1aac1af589a13926b2107e9f4daf770f8182d5cf7"},
		{256, 2, "c8c8c8c8c8c8c8c8c8c8c8c8c8c8c8c8c8c8c8c8c8c8c8c8c8c8c8c8c8c8c8c8", "0101010101010101010101010101010101010101010101010101010101010101"},
		{1000, 7, "c8c8c8c8c8c8c8c8c8c8c8c8c8c8c8c8c8c8c8c8c8c8c8c8c8c8c8c8c8c8c8c8", "4beb997a785429892107cf287720ca30700d5c73dd89edf198f2873ee25550c6"},
		{65535, 1, "ad40bdedc18f1533238999a0146e89e432eb84bb9a7a96041bc1474905521e3f", "a583e848bc98293d8946f4dd6c2a3f67a727fb54fcf2fb56366aeef14963948f"},
		{1<<20 + 3, 2, "f45e75cfea8d15b3ef6aa4059860f7c6fcec1a204b3d8e100680fecca8cef061", "160af055ded2a117bd9339706528fca2abb32d61c29c60a38565724786041480"},
		{1 << 29, 2, "c8c8c8c8c8c8c8c8c8c8c8c8c8c8c8c8c8c8c8c8c8c8c8c8c8c8c8c8c8c8c8c8", "0101010101010101010101010101010101010101010101010101010101010101"},
		{most - 2, 30, "c8c8c8c8c8c8c8c8c8c8c8c8c8c8c8c8c8c8c8c8c8c8c8c8c8c8c8c8c8c8c8c8", "299578addf5758249a5a25aac59bdf0aff1ff2e67a25da07e4bf172e4e9c4100"},
		{most - 1, 1, "ef28cdec8663fbeed5da5711b57e332273859694b1ab755425b45d57cbc97a94", "de5f4a8e33fd91b1b5c34e50aa3143f330118f57baaa3588a44cb61020f18ab7"},
		{most, 2, "c8c8c8c8c8c8c8c8c8c8c8c8c8c8c8c8c8c8c8c8c8c8c8c8c8c8c8c8c8c8c8c8", "0101010101010101010101010101010101010101010101010101010101010101"},
	}
	for _, c := range cases {
		ps := steps(len(counts(c.n)))
		got := add(t, c.n, ps, full(200))
		if len(got) != c.length || octet.Hex(got[c.length-1][:]) != c.last {
			t.Errorf("%d leaves: got %x, want %d of which the last is %s", c.n, got, c.length, c.last)
		}
		if kept := c.length - 1; !slices.Equal(got[:kept], ps[:kept]) {
			t.Errorf("%d leaves: the first %d are %x", c.n, kept, got[:kept])
		}
		if d := root(t, c.n, ps); octet.Hex(d[:]) != c.root {
			t.Errorf("%d leaves: got Root %x, want %s", c.n, d, c.root)
		}
	}
}

func TestAddOfEveryNumber(t *testing.T) {
	for _, n := range numbers() {
		ps := steps(len(counts(n)))
		if got, want := add(t, n, ps, full(200)), wantAdd(n, ps, full(200)); !slices.Equal(got, want) {
			t.Fatalf("%d leaves: got %x, want %x", n, got, want)
		}
	}
}

func TestRootOfEveryNumber(t *testing.T) {
	for _, n := range numbers() {
		ps := steps(len(counts(n)))
		if got, want := root(t, n, ps), wantWhole(n, ps); got != want {
			t.Fatalf("%d leaves: got %x, want %x", n, got, want)
		}
	}
}

// What Add tells is as many as n + 1 has bits, and goes on from there, up to one more than 2^30.
func TestAddGoesOn(t *testing.T) {
	for _, from := range []int{0, 1000, 1<<16 - 100, 1<<29 - 100, most - 300} {
		ps := steps(len(counts(from)))
		for n := from; n < from+300; n++ {
			want := wantAdd(n, ps, full(byte(n)))
			ps = add(t, n, ps, full(byte(n)))
			if !slices.Equal(ps, want) || len(ps) != len(counts(n+1)) {
				t.Fatalf("%d leaves: got %x, want %x", n, ps, want)
			}
			if got, want := root(t, n+1, ps), wantWhole(n+1, ps); got != want {
				t.Fatalf("%d leaves: got Root %x, want %x", n+1, got, want)
			}
		}
	}
	last := add(t, most, steps(1), full(200))
	if !slices.Equal(last, []api.Digest{full(1), full(200)}) {
		t.Errorf("2^30 leaves and one more: got %x", last)
	}
	wantNone(t, most+1, last, api.ErrRange)
}

// Each peak counts, and its place, and each of its bits.
func TestChangedPeaks(t *testing.T) {
	for _, n := range []int{1, 2, 3, 6, 7, 100, 255, 256, 1000, most - 2, most - 1, most} {
		ps := steps(len(counts(n)))
		whole, more := root(t, n, ps), add(t, n, ps, full(200))
		var others [][]api.Digest
		for at := range ps {
			for bit := range 256 {
				other := slices.Clone(ps)
				other[at] = flip(other[at], bit)
				others = append(others, other)
			}
			if at > 0 {
				other := slices.Clone(ps)
				other[at-1], other[at] = other[at], other[at-1]
				others = append(others, other)
			}
		}
		for _, other := range others {
			if root(t, n, other) == whole {
				t.Errorf("%d leaves: other peaks have the same Root", n)
			}
			if slices.Equal(add(t, n, other, full(200)), more) {
				t.Errorf("%d leaves: other peaks have the same peaks behind them", n)
			}
		}
		for bit := range 256 {
			if slices.Equal(add(t, n, ps, flip(full(200), bit)), more) {
				t.Errorf("%d leaves: another leaf has the same peaks", n)
			}
		}
	}
}

// PK1: what is wrong.

// However many peaks there are, also as many as n has bits.
func TestNumbersOutOfRange(t *testing.T) {
	for _, n := range outside() {
		for length := range 67 {
			wantNone(t, n, steps(length), api.ErrRange)
		}
		wantNone(t, n, nil, api.ErrRange)
		wantNone(t, n, make([]api.Digest, 1000), api.ErrRange)
	}
}

func TestMoreOrFewerPeaks(t *testing.T) {
	long := steps(40)
	for _, n := range numbers() {
		own := len(counts(n))
		for length := range long {
			if length != own {
				wantNone(t, n, long[:length], api.ErrLength)
			}
		}
	}
	for _, n := range []int{0, 1, 2, 3, 255, 256, most - 1, most} {
		for _, length := range []int{256, 257, 1 << 16, 1<<16 + 1} {
			wantNone(t, n, make([]api.Digest, length), api.ErrLength)
		}
	}
}

// The peaks of leaves, with the number of one leaf less or one more where it has other bits.
func TestPeaksOfAnotherNumber(t *testing.T) {
	for n := range 257 {
		ps := grown(t, row(n))
		for _, other := range []int{n - 1, n + 1, 2*n + 1, -n} {
			if other < 0 {
				wantNone(t, other, ps, api.ErrRange)
			} else if len(counts(other)) != len(ps) {
				wantNone(t, other, ps, api.ErrLength)
			}
		}
	}
}

// P2, P4: what is handed in stays, with what lies behind its length, and is not kept; what comes out is fresh.

func TestPeaksStay(t *testing.T) {
	before := steps(40)
	room := slices.Clone(before)
	for _, n := range []int{0, 1, 2, 3, 4, 6, 7, 11, 100, 255, 256, most - 2, most - 1, most} {
		own := len(counts(n))
		if got, want := add(t, n, room[:own], full(200)), wantAdd(n, before[:own], full(200)); !slices.Equal(got, want) {
			t.Errorf("%d leaves: got %x, want %x", n, got, want)
		}
		if got, want := root(t, n, room[:own]), wantWhole(n, before[:own]); got != want {
			t.Errorf("%d leaves: got Root %x, want %x", n, got, want)
		}
		wantNone(t, n, room[:own+1], api.ErrLength)
		if own > 0 {
			wantNone(t, n, room[:own-1], api.ErrLength)
		}
		wantNone(t, -n-1, room[:own], api.ErrRange)
		if !slices.Equal(room, before) {
			t.Fatalf("%d leaves: the peaks, or what lies behind them, were written into", n)
		}
	}
}

func TestPeaksAreFresh(t *testing.T) {
	for _, n := range []int{0, 1, 2, 3, 4, 6, 7, 11, 100, 255, 256, most - 2, most - 1, most} {
		ps := steps(len(counts(n)))
		want := wantAdd(n, ps, full(200))
		first, second := add(t, n, ps, full(200)), add(t, n, ps, full(200))
		clear(first[:cap(first)])
		if !slices.Equal(second, want) {
			t.Errorf("%d leaves: two answers share memory", n)
		}
		if !slices.Equal(ps, steps(len(ps))) {
			t.Errorf("%d leaves: the answer and the peaks share memory", n)
		}
		third := add(t, n, ps, full(200))
		clear(ps)
		if !slices.Equal(third, want) {
			t.Errorf("%d leaves: the answer hangs on what was done with the peaks", n)
		}
	}
}

// Two leaves that are added to the same peaks make two lists of their own.
func TestPeaksOfTwoFutures(t *testing.T) {
	for n := range 64 {
		ls := row(n)
		ps := grown(t, ls)
		left, right := add(t, n, ps, full(1)), add(t, n, ps, full(2))
		if !slices.Equal(left, wantPeaks(append(ls[:n:n], full(1)))) || !slices.Equal(right, wantPeaks(append(ls[:n:n], full(2)))) {
			t.Errorf("%d leaves: got %x and %x", n, left, right)
		}
	}
}

// A call that failed leaves nothing behind: the next one tells what it told before.
func TestAfterAnError(t *testing.T) {
	ps := grown(t, row(7))
	for range 3 {
		wantNone(t, 7, ps[1:], api.ErrLength)
		wantNone(t, most+1, ps, api.ErrRange)
		if got, want := add(t, 7, ps, row(8)[7]), wantPeaks(row(8)); !slices.Equal(got, want) {
			t.Errorf("got %x, want %x", got, want)
		}
		if got, want := root(t, 7, ps), wantRoot(row(7)); got != want {
			t.Errorf("got %x, want %x", got, want)
		}
	}
}
