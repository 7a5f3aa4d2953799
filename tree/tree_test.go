package tree_test

import (
	"bytes"
	"crypto/sha256"
	"math"
	"slices"
	"testing"

	"oathbook/api"
	"oathbook/octet"
	"oathbook/plain"
	"oathbook/sha"
	"oathbook/tree"
)

// full: a digest whose bytes are all x.
func full(x byte) api.Digest {
	var d api.Digest
	for i := range d {
		d[i] = x
	}
	return d
}

// flip: the digest with its bit i another one.
func flip(d api.Digest, i int) api.Digest {
	d[i/8] ^= 128 >> (i % 8)
	return d
}

// row: so many leaves, each of a byte that tells its place.
func row(n int) []api.Digest {
	var ls []api.Digest
	for i := range n {
		ls = append(ls, wantLeaf([]byte{byte(i)}))
	}
	return ls
}

// lists: leaves of several numbers, powers of 2 and those about them among them, and one list of which all are alike.
func lists() [][]api.Digest {
	var all [][]api.Digest
	for n := 1; n <= 34; n++ {
		all = append(all, row(n))
	}
	for _, n := range []int{63, 64, 65, 100, 127, 128, 129, 192, 193, 255, 256} {
		all = append(all, row(n))
	}
	return append(all, make([]api.Digest, 21))
}

// tooMany: numbers of leaves that no tree has.
func tooMany() []int { return []int{257, 258, 300, 511, 512, 513, 1024, 65536, 65537} }

// wantLeaf: what Go's own library tells of a byte 0 and the bytes.
func wantLeaf(b []byte) api.Digest { return sha256.Sum256(append([]byte{0}, b...)) }

// wantNode: what Go's own library tells of a byte 1 and both digests.
func wantNode(l, r api.Digest) api.Digest {
	return sha256.Sum256(slices.Concat([]byte{1}, l[:], r[:]))
}

// wantSplit: the greatest power of 2 below n.
func wantSplit(n int) int {
	k := 1
	for 2*k < n {
		k *= 2
	}
	return k
}

// wantRoot: the chapter's Root.
func wantRoot(ls []api.Digest) api.Digest {
	if len(ls) == 0 {
		return sha256.Sum256(nil)
	}
	if len(ls) == 1 {
		return ls[0]
	}
	k := wantSplit(len(ls))
	return wantNode(wantRoot(ls[:k]), wantRoot(ls[k:]))
}

// wantPath: the chapter's Path of a leaf that is there.
func wantPath(ls []api.Digest, i int) []api.Digest {
	if len(ls) == 1 {
		return nil
	}
	k := wantSplit(len(ls))
	if i < k {
		return append(wantPath(ls[:k], i), wantRoot(ls[k:]))
	}
	return append(wantPath(ls[k:], i-k), wantRoot(ls[:k]))
}

// sides: on which side of its Nodes leaf i of n stands, from it up: is it the left one?
func sides(i, n int) []bool {
	if n == 1 {
		return nil
	}
	k := wantSplit(n)
	if i < k {
		return append(sides(i, k), true)
	}
	return append(sides(i-k, n-k), false)
}

// wantFold: what a leaf and a path of its length make, from it up.
func wantFold(l api.Digest, i, n int, path []api.Digest) api.Digest {
	for at, left := range sides(i, n) {
		if left {
			l = wantNode(l, path[at])
		} else {
			l = wantNode(path[at], l)
		}
	}
	return l
}

// root: what Root tells, where it must tell something.
func root(t *testing.T, ls []api.Digest) api.Digest {
	t.Helper()
	d, err := tree.Root(ls)
	if err != nil {
		t.Fatalf("Root of %d: %v", len(ls), err)
	}
	return d
}

// path: what Path tells, where it must tell something.
func path(t *testing.T, ls []api.Digest, i int) []api.Digest {
	t.Helper()
	p, err := tree.Path(ls, i)
	if err != nil {
		t.Fatalf("Path of leaf %d of %d: %v", i, len(ls), err)
	}
	return p
}

// fold: what Fold tells, where it must tell something.
func fold(t *testing.T, l api.Digest, i, n int, p []api.Digest) api.Digest {
	t.Helper()
	d, err := tree.Fold(l, i, n, p)
	if err != nil {
		t.Fatalf("Fold of leaf %d of %d with %d: %v", i, n, len(p), err)
	}
	return d
}

// wantNoFold: Fold tells this error, and nothing beside it.
func wantNoFold(t *testing.T, l api.Digest, i, n int, p []api.Digest, want api.Errno) {
	t.Helper()
	if d, err := tree.Fold(l, i, n, p); plain.Told(err) != want || d != (api.Digest{}) {
		t.Fatalf("Fold of leaf %d of %d with %d: got %x and %v, want %v", i, n, len(p), d, err, want)
	}
}

// wantNoPath: Path tells this error, and nothing beside it.
func wantNoPath(t *testing.T, ls []api.Digest, i int, want api.Errno) {
	t.Helper()
	if p, err := tree.Path(ls, i); plain.Told(err) != want || len(p) != 0 {
		t.Fatalf("Path of leaf %d of %d: got %x and %v, want %v", i, len(ls), p, err, want)
	}
}

// TE1: Leaf and Node.

// Digests that another program has told of the chapter's words: no library is asked here.
func TestToldLeaves(t *testing.T) {
	var rising []byte
	for i := range 200 {
		rising = append(rising, byte(i))
	}
	cases := []struct {
		b    []byte
		want string
	}{
		{nil, "6e340b9cffb37a989ca544e6bb780a2c78901d3fb33738768511a30617afa01d"},
		{[]byte{}, "6e340b9cffb37a989ca544e6bb780a2c78901d3fb33738768511a30617afa01d"},
		{[]byte("a"), "022a6979e6dab7aa5ae4c3e5e45f7e977112a7e63593820dbec1ec738a24f93c"},
		{[]byte("abc"), "609f6e36d2405585188d5cfd761f407c7cc46a7d3f314c88270469dde315fcd1"},
		{rising, "ecfafa5927ea4003f545cc406064624ac3771525039bde83b5a2d2ec253358ec"},
	}
	for _, c := range cases {
		if d := tree.Leaf(c.b); octet.Hex(d[:]) != c.want {
			t.Errorf("Leaf of %x: got %x, want %s", c.b, d, c.want)
		}
	}
}

func TestToldNodes(t *testing.T) {
	cases := []struct {
		l, r api.Digest
		want string
	}{
		{full(0), full(0), "ae0798d0ecaed2b778eddebf18f071a561c53658c05e76cedecc27cafbdbc577"},
		{full(0), full(255), "bc6b943b820c449acf880d293c216a24a8066b153f87f2361fae2beda3a72641"},
		{full(255), full(0), "a72afab084e5434c27771f0c63ab22802c9f2e963e417e09b4a95a3fdf4baff6"},
	}
	for _, c := range cases {
		if d := tree.Node(c.l, c.r); octet.Hex(d[:]) != c.want {
			t.Errorf("Node of %x and %x: got %x, want %s", c.l, c.r, d, c.want)
		}
	}
}

// Every length to some blocks on, beside Go's own library and beside Sum.
func TestLeafOfEveryLength(t *testing.T) {
	for n := range 200 {
		b := bytes.Repeat([]byte{byte(n + 1)}, n)
		got := tree.Leaf(b)
		if want := wantLeaf(b); got != want {
			t.Errorf("Leaf of %d bytes: got %x, want %x", n, got, want)
		}
		if want := sha.Sum(append([]byte{0}, b...)); got != want {
			t.Errorf("Leaf of %d bytes: got %x, and Sum tells %x", n, got, want)
		}
	}
}

// Each bit of each side counts, beside Go's own library and beside Sum.
func TestNodeOfEveryBit(t *testing.T) {
	for bit := range 256 {
		for _, pair := range [][2]api.Digest{{flip(full(0), bit), full(9)}, {full(9), flip(full(0), bit)}} {
			got := tree.Node(pair[0], pair[1])
			if want := wantNode(pair[0], pair[1]); got != want {
				t.Errorf("Node of %x: got %x, want %x", pair, got, want)
			}
			if want := sha.Sum(slices.Concat([]byte{1}, pair[0][:], pair[1][:])); got != want {
				t.Errorf("Node of %x: got %x, and Sum tells %x", pair, got, want)
			}
		}
	}
}

// No leaf is a node: not that of both digests' bytes, with the byte ahead of them or without.
func TestNoLeafIsANode(t *testing.T) {
	l, r := full(3), full(4)
	node := tree.Node(l, r)
	both := slices.Concat(l[:], r[:])
	for _, b := range [][]byte{both, append([]byte{0}, both...), append([]byte{1}, both...)} {
		if tree.Leaf(b) == node {
			t.Errorf("the leaf of %x is a node", b)
		}
	}
}

// TE1: Root.

// Roots that another program has told.
func TestToldRoots(t *testing.T) {
	cases := []struct {
		n    int
		want string
	}{
		{0, "e3b0c44298fc1c149afbf4c8996fb92427ae41e4649b934ca495991b7852b855"},
		{1, "96a296d224f285c67bee93c30f8a309157f0daa35dc5b87e410b78630a09cfc7"},
		{2, "a20bf9a7cc2dc8a08f5f415a71b19f6ac427bab54d24eec868b5d3103449953a"},
		{3, "3b6cccd7e3e023ff393006f030315ee7ad9eb111b022b41fba7e5b7a3973f688"},
		{4, "9bcd51240af4005168f033121ba85be5a6ed4f0e6a5fac262066729b8fbfdecb"},
		{5, "b855b42d6c30f5b087e05266783fbd6e394f7b926013ccaa67700a8b0c5a596f"},
		{6, "bb36e7d3d4cee5720cbd323d02fab15962e2ba1dadf5f8fc6eeef4fd6ad056a8"},
		{7, "3560191803028444b232018ac047fdb561c09c23a7a6876c85e08b5e4d48e9f3"},
		{8, "ef7f49b620f6c7ea9b963a214da34b5021c6ded8ed57734380a311ab726aa907"},
		{9, "162a21c2230e0284ea38cb8739ee4bb75947a1acd5d529c638ec068969fb3c4a"},
		{16, "93f2bd0cd60b2e597cf53fb12ae63ed157e0c10efbfe097d23caf8a5f59c6e27"},
		{100, "9eccc8f11ab3ecd41cbf41f5045df576dcedc60f44d4a3de5f40b7d4f7e9d7e3"},
		{128, "ec2904d816d8b08fbd3773a0ebe5bbe677eba157f28b35be83b8cefc297fe153"},
		{129, "e6bd494cf88b915d36c36d3838eec2ab7269d3e59df66b5f023a8ff657a9f59b"},
		{255, "109456304c2c861619b325bb795c95ed9afc6c27bef892d86f2d88356e9f5bcd"},
		{256, "0387b1bfaad194ad5b534d6a57c9710a83484cb544258df5f4df94bc41820b5f"},
	}
	for _, c := range cases {
		if d := root(t, row(c.n)); octet.Hex(d[:]) != c.want {
			t.Errorf("%d leaves: got %x, want %s", c.n, d, c.want)
		}
	}
}

func TestRootOfNone(t *testing.T) {
	for _, ls := range [][]api.Digest{nil, {}, row(5)[:0]} {
		if got := root(t, ls); got != sha.Sum(nil) {
			t.Errorf("got %x", got)
		}
	}
}

// One leaf is its own Root, whatever it is.
func TestRootOfOne(t *testing.T) {
	for _, l := range []api.Digest{{}, {1}, {31: 1}, full(255), sha.Sum(nil)} {
		if got := root(t, []api.Digest{l}); got != l {
			t.Errorf("got %x, want %x", got, l)
		}
	}
}

// Small trees, written out by Node.
func TestRootOfFew(t *testing.T) {
	node := tree.Node
	ls := row(9)
	a, b, c, d, e, f, g, h, i := ls[0], ls[1], ls[2], ls[3], ls[4], ls[5], ls[6], ls[7], ls[8]
	four := node(node(a, b), node(c, d))
	eight := node(four, node(node(e, f), node(g, h)))
	for n, want := range map[int]api.Digest{
		2: node(a, b),
		3: node(node(a, b), c),
		4: four,
		5: node(four, e),
		6: node(four, node(e, f)),
		7: node(four, node(node(e, f), g)),
		8: eight,
		9: node(eight, i),
	} {
		if got := root(t, ls[:n]); got != want {
			t.Errorf("%d leaves: got %x, want %x", n, got, want)
		}
	}
}

func TestRootOfEveryNumber(t *testing.T) {
	for _, ls := range [][]api.Digest{row(api.MaxLeaves), make([]api.Digest, api.MaxLeaves)} {
		for n := range api.MaxLeaves + 1 {
			if got, want := root(t, ls[:n]), wantRoot(ls[:n]); got != want {
				t.Errorf("%d leaves: got %x, want %x", n, got, want)
			}
		}
	}
}

// Another way to the same: storey by storey, two by two, and one that is left over goes up as it is.
func TestRootByStoreys(t *testing.T) {
	for n := 1; n <= api.MaxLeaves; n++ {
		storey := row(n)
		for len(storey) > 1 {
			var upper []api.Digest
			for at := 0; at+1 < len(storey); at += 2 {
				upper = append(upper, tree.Node(storey[at], storey[at+1]))
			}
			if len(storey)%2 == 1 {
				upper = append(upper, storey[len(storey)-1])
			}
			storey = upper
		}
		if got := root(t, row(n)); got != storey[0] {
			t.Errorf("%d leaves: got %x, want %x", n, got, storey[0])
		}
	}
}

// Each leaf counts, and so does its place.
func TestRootOfOthers(t *testing.T) {
	for _, n := range []int{1, 2, 3, 7, 8, 9, 100, 255, 256} {
		ls := row(n)
		want := root(t, ls)
		for i := range ls {
			changed := slices.Clone(ls)
			changed[i] = flip(changed[i], i%256)
			if root(t, changed) == want {
				t.Errorf("%d leaves, leaf %d changed: it is still their Root", n, i)
			}
			if i > 0 {
				turned := slices.Clone(ls)
				turned[i-1], turned[i] = turned[i], turned[i-1]
				if root(t, turned) == want {
					t.Errorf("%d leaves, leaf %d turned: it is still their Root", n, i)
				}
			}
		}
	}
}

func TestRootOfTooMany(t *testing.T) {
	for _, n := range tooMany() {
		for _, ls := range [][]api.Digest{row(n), make([]api.Digest, n)} {
			if d, err := tree.Root(ls); plain.Told(err) != api.ErrFull || d != (api.Digest{}) {
				t.Errorf("%d leaves: got %x and %v", n, d, err)
			}
		}
	}
}

// Split: by which number of leaves Root halves.

func TestSplit(t *testing.T) {
	for n := 2; n <= 2*api.MaxLeaves; n++ {
		if got, want := tree.Split(n), wantSplit(n); got != want {
			t.Errorf("of %d: got %d, want %d", n, got, want)
		}
	}
	for _, power := range []int{20, 32, 33, 61, 62} {
		for n, want := range map[int]int{1<<power - 1: 1 << (power - 1), 1 << power: 1 << (power - 1), 1<<power + 1: 1 << power} {
			if got := tree.Split(n); got != want {
				t.Errorf("of %d: got %d, want %d", n, got, want)
			}
		}
	}
	if got := tree.Split(math.MaxInt); got != 1<<62 {
		t.Errorf("of the greatest number: got %d", got)
	}
	for _, n := range []int{1, 0, -1, -2, -256, math.MinInt, math.MinInt + 1} {
		if got := tree.Split(n); got != 0 {
			t.Errorf("of %d: got %d, want 0", n, got)
		}
	}
}

// TE2: Path.

// Paths that another program has told.
func TestToldPaths(t *testing.T) {
	cases := []struct {
		n, i int
		want []string
	}{
		{1, 0, nil},
		{2, 0, []string{"b413f47d13ee2fe6c845b2ee141af81de858df4ec549a58b7970bb96645bc8d2"}},
		{2, 1, []string{"96a296d224f285c67bee93c30f8a309157f0daa35dc5b87e410b78630a09cfc7"}},
		{3, 0, []string{
			"b413f47d13ee2fe6c845b2ee141af81de858df4ec549a58b7970bb96645bc8d2",
			"fcf0a6c700dd13e274b6fba8deea8dd9b26e4eedde3495717cac8408c9c5177f"}},
		{3, 2, []string{"a20bf9a7cc2dc8a08f5f415a71b19f6ac427bab54d24eec868b5d3103449953a"}},
		{7, 3, []string{
			"fcf0a6c700dd13e274b6fba8deea8dd9b26e4eedde3495717cac8408c9c5177f",
			"a20bf9a7cc2dc8a08f5f415a71b19f6ac427bab54d24eec868b5d3103449953a",
			"89c929834ed1459b07f65b5e1a2143a8cf5d8efdf30f49ffffa328bb1d9133bb"}},
		{7, 4, []string{
			"9f1afa4dc124cba73134e82ff50f17c8f7164257c79fed9a13f5943a6acb8e3d",
			"40d88127d4d31a3891f41598eeed41174e5bc89b1eb9bbd66a8cbfc09956a3fd",
			"9bcd51240af4005168f033121ba85be5a6ed4f0e6a5fac262066729b8fbfdecb"}},
		{7, 6, []string{
			"4b8c129ed14cce2c08cfc6766db7f8cdb133b5f698b8de3d5890ea7ff7f0a8d1",
			"9bcd51240af4005168f033121ba85be5a6ed4f0e6a5fac262066729b8fbfdecb"}},
		{129, 128, []string{"ec2904d816d8b08fbd3773a0ebe5bbe677eba157f28b35be83b8cefc297fe153"}},
		{256, 255, []string{
			"dcc3494d498009f15481bc423aeabcc2f8f5b0e6109192491eda8458032c8db6",
			"839eeb100587c3436ed0e6fa537f8d5dcdf7594e449ad9be7306b2aa07d59f18",
			"fb96943b7bf1ce33597bf3eb57c602e2935a04faa7db1baefbba859f30516aac",
			"b69c872c2041359328bfa7fe615f350494a4d143dc3b8cc3eec0f09aa66d58e1",
			"2c7a3d6c45076cef44f8483bfbc74191d6961011092c0b79586aac112836a715",
			"9128df7de928f726b50fdc71b71f826223f70d991c060fbb06b95358cb68aa3f",
			"4af5be83a535882ef75b295808293a9467f415a41c364556c9b6fe2e60d2e176",
			"ec2904d816d8b08fbd3773a0ebe5bbe677eba157f28b35be83b8cefc297fe153"}},
	}
	for _, c := range cases {
		var got []string
		for _, d := range path(t, row(c.n), c.i) {
			got = append(got, octet.Hex(d[:]))
		}
		if !slices.Equal(got, c.want) {
			t.Errorf("leaf %d of %d: got %q, want %q", c.i, c.n, got, c.want)
		}
	}
}

// Small trees, written out by Node.
func TestPathOfFew(t *testing.T) {
	node := tree.Node
	ls := row(7)
	a, b, c, d, e, f, g := ls[0], ls[1], ls[2], ls[3], ls[4], ls[5], ls[6]
	ab, cd, ef := node(a, b), node(c, d), node(e, f)
	type list = []api.Digest
	for n, want := range map[int][]list{
		1: {{}},
		2: {{b}, {a}},
		3: {{b, c}, {a, c}, {ab}},
		4: {{b, cd}, {a, cd}, {d, ab}, {c, ab}},
		5: {{b, cd, e}, {a, cd, e}, {d, ab, e}, {c, ab, e}, {node(ab, cd)}},
		6: {{b, cd, ef}, {a, cd, ef}, {d, ab, ef}, {c, ab, ef}, {f, node(ab, cd)}, {e, node(ab, cd)}},
		7: {{b, cd, node(ef, g)}, {a, cd, node(ef, g)}, {d, ab, node(ef, g)}, {c, ab, node(ef, g)},
			{f, g, node(ab, cd)}, {e, g, node(ab, cd)}, {ef, node(ab, cd)}},
	} {
		for i := range want {
			if got := path(t, ls[:n], i); !slices.Equal(got, want[i]) {
				t.Errorf("leaf %d of %d: got %x, want %x", i, n, got, want[i])
			}
		}
	}
}

func TestPathOfEveryLeaf(t *testing.T) {
	for _, ls := range lists() {
		for i := range ls {
			if got, want := path(t, ls, i), wantPath(ls, i); !slices.Equal(got, want) {
				t.Errorf("leaf %d of %d: got %x, want %x", i, len(ls), got, want)
			}
		}
	}
}

// The leaf itself has no part in its Path, and all others have.
func TestPathHangsOnTheOthers(t *testing.T) {
	for _, n := range []int{1, 2, 3, 6, 7, 8, 9, 13} {
		ls := row(n)
		for i := range ls {
			want := path(t, ls, i)
			for other := range ls {
				changed := slices.Clone(ls)
				changed[other] = flip(changed[other], 77)
				if same := slices.Equal(path(t, changed, i), want); same != (other == i) {
					t.Errorf("%d leaves, leaf %d changed: is the Path of leaf %d the same? %v", n, other, i, same)
				}
			}
		}
	}
}

func TestPathOfTooMany(t *testing.T) {
	for _, n := range tooMany() {
		ls := row(n)
		for _, i := range []int{0, 1, 128, 255, 256, n - 1, n, n + 1, -1, -n, math.MinInt, math.MaxInt} {
			wantNoPath(t, ls, i, api.ErrFull)
		}
	}
}

func TestPathOfNoLeaf(t *testing.T) {
	for n := range api.MaxLeaves + 1 {
		ls := row(n)
		for _, i := range []int{-1, -2, -n - 1, -256, -257, math.MinInt, math.MinInt + 1, n, n + 1, 2*n + 1, 256, 257, 1 << 32, 1<<32 + 1, math.MaxInt} {
			wantNoPath(t, ls, i, api.ErrRange)
		}
	}
	wantNoPath(t, nil, 0, api.ErrRange)
	wantNoPath(t, []api.Digest{}, 0, api.ErrRange)
}

// TE2: Fold.

func TestFoldOfPathIsRoot(t *testing.T) {
	for _, ls := range lists() {
		want := root(t, ls)
		for i := range ls {
			if got := fold(t, ls[i], i, len(ls), path(t, ls, i)); got != want {
				t.Errorf("leaf %d of %d: got %x, want %x", i, len(ls), got, want)
			}
		}
	}
}

// Each place of each number of leaves, with a path that no list made.
func TestFoldOfEveryPlace(t *testing.T) {
	l, digests := full(200), row(8)
	for n := 1; n <= api.MaxLeaves; n++ {
		for i := range n {
			p := digests[:len(sides(i, n))]
			if got, want := fold(t, l, i, n, p), wantFold(l, i, n, p); got != want {
				t.Fatalf("leaf %d of %d: got %x, want %x", i, n, got, want)
			}
		}
	}
}

// One leaf alone is its own Root.
func TestFoldOfOne(t *testing.T) {
	for _, l := range []api.Digest{{}, {1}, full(255)} {
		for _, p := range [][]api.Digest{nil, {}} {
			if got := fold(t, l, 0, 1, p); got != l {
				t.Errorf("got %x, want %x", got, l)
			}
		}
	}
}

func TestFoldOfAnotherLeaf(t *testing.T) {
	for _, ls := range lists() {
		n, not := len(ls), root(t, ls)
		for i := range ls {
			p := path(t, ls, i)
			other := flip(ls[i], (i*37)%256)
			got := fold(t, other, i, n, p)
			if want := wantFold(other, i, n, p); got != want || got == not {
				t.Errorf("leaf %d of %d changed: got %x, want %x, and not %x", i, n, got, want, not)
			}
		}
	}
}

func TestFoldOfAChangedPath(t *testing.T) {
	for _, n := range []int{2, 3, 5, 6, 7, 8, 21, 129, 255, 256} {
		ls := row(n)
		not := root(t, ls)
		for i := range ls {
			p := path(t, ls, i)
			for at := range p {
				changed := slices.Clone(p)
				changed[at] = flip(changed[at], (i*37+at)%256)
				got := fold(t, ls[i], i, n, changed)
				if want := wantFold(ls[i], i, n, changed); got != want || got == not {
					t.Errorf("leaf %d of %d, digest %d changed: got %x, want %x, and not %x", i, n, at, got, want, not)
				}
			}
		}
	}
}

func TestFoldOfOtherOrders(t *testing.T) {
	for _, n := range []int{3, 5, 7, 8, 21, 256} {
		ls := row(n)
		not := root(t, ls)
		for i := range ls {
			p := path(t, ls, i)
			for at := 1; at < len(p); at++ {
				turned := slices.Clone(p)
				turned[at-1], turned[at] = turned[at], turned[at-1]
				got := fold(t, ls[i], i, n, turned)
				if want := wantFold(ls[i], i, n, turned); got != want || got == not {
					t.Errorf("leaf %d of %d, digest %d turned: got %x, want %x, and not %x", i, n, at, got, want, not)
				}
			}
		}
	}
}

// A leaf and its path at another place have another Root, or the path is not as long as that place's.
func TestFoldAtAnotherPlace(t *testing.T) {
	for _, n := range []int{2, 3, 7, 8, 13, 100, 256} {
		ls := row(n)
		not := root(t, ls)
		for i := range ls {
			p := path(t, ls, i)
			for _, other := range []int{0, i - 1, i + 1, i ^ 1, n / 2, n - 1 - i, n - 1} {
				if other == i || other < 0 || other >= n {
					continue
				}
				if len(sides(other, n)) != len(p) {
					wantNoFold(t, ls[i], other, n, p, api.ErrLength)
				} else if got := fold(t, ls[i], other, n, p); got == not {
					t.Errorf("leaf %d of %d is shown at %d", i, n, other)
				}
			}
		}
	}
}

// Every length but its own, at each place of each number of leaves.
func TestFoldOfOtherLengths(t *testing.T) {
	long := row(30)
	for n := 1; n <= api.MaxLeaves; n++ {
		for i := range n {
			for length := range long {
				if length != len(sides(i, n)) {
					wantNoFold(t, long[0], i, n, long[:length], api.ErrLength)
				}
			}
		}
	}
	for _, n := range []int{1, 2, 3, 8, 255, 256} {
		for _, length := range []int{257, 1 << 16, 1<<16 + 1, 1<<16 + 8} {
			wantNoFold(t, long[0], n-1, n, make([]api.Digest, length), api.ErrLength)
		}
	}
}

// A Path with one digest more, ahead of it or behind it, or with one less.
func TestFoldOfLongerAndShorterPaths(t *testing.T) {
	for _, ls := range lists() {
		n := len(ls)
		for i := range ls {
			p := path(t, ls, i)
			wantNoFold(t, ls[i], i, n, append(slices.Clone(p), full(1)), api.ErrLength)
			wantNoFold(t, ls[i], i, n, append([]api.Digest{full(1)}, p...), api.ErrLength)
			if len(p) > 0 {
				wantNoFold(t, ls[i], i, n, p[1:], api.ErrLength)
				wantNoFold(t, ls[i], i, n, p[:len(p)-1], api.ErrLength)
				wantNoFold(t, ls[i], i, n, nil, api.ErrLength)
			}
		}
	}
}

// Of too few leaves or too many, whatever the place and however long the path.
func TestFoldOfNoNumber(t *testing.T) {
	for _, n := range []int{0, -1, -2, -255, -256, math.MinInt, math.MinInt + 1, 257, 258, 511, 512, 1 << 32, 1<<32 + 1, math.MaxInt} {
		for _, i := range []int{0, 1, 128, 255, 256, n - 1, n, n + 1, -1, math.MinInt, math.MaxInt} {
			for _, length := range []int{0, 1, 8, 9, 10, 300} {
				wantNoFold(t, full(1), i, n, make([]api.Digest, length), api.ErrRange)
			}
		}
	}
}

// At no place of theirs, however long the path.
func TestFoldOfNoPlace(t *testing.T) {
	for n := 1; n <= api.MaxLeaves; n++ {
		for _, i := range []int{-1, -2, -n, -256, math.MinInt, math.MinInt + 1, n, n + 1, 2 * n, 256, 257, 1 << 32, 1<<32 + 1, math.MaxInt} {
			for _, length := range []int{0, 1, 2, len(sides(n-1, n)), len(sides(0, n)), 9, 300} {
				wantNoFold(t, full(1), i, n, make([]api.Digest, length), api.ErrRange)
			}
		}
	}
}

// P2, P4: what is handed in stays, with what lies behind its length, and is not kept; what comes out is fresh.

func TestBytesStay(t *testing.T) {
	for _, n := range []int{0, 1, 54, 55, 63, 64, 100} {
		room := bytes.Repeat([]byte{6}, n+80)
		if got, want := tree.Leaf(room[:n]), wantLeaf(bytes.Repeat([]byte{6}, n)); got != want {
			t.Errorf("%d bytes: got %x, want %x", n, got, want)
		}
		if !bytes.Equal(room, bytes.Repeat([]byte{6}, n+80)) {
			t.Errorf("%d bytes: they were written into", n)
		}
	}
}

func TestLeavesStay(t *testing.T) {
	before := row(api.MaxLeaves)
	room := slices.Clone(before)
	for _, n := range []int{0, 1, 2, 3, 7, 8, 100, 255} {
		if got, want := root(t, room[:n]), wantRoot(before[:n]); got != want {
			t.Errorf("%d leaves: what lies behind them counts", n)
		}
		for i := range n {
			if !slices.Equal(path(t, room[:n], i), wantPath(before[:n], i)) {
				t.Errorf("leaf %d of %d: what lies behind them counts", i, n)
			}
		}
		wantNoPath(t, room[:n], n, api.ErrRange)
		if !slices.Equal(room, before) {
			t.Fatalf("%d leaves: they were written into", n)
		}
	}
}

func TestPathsStay(t *testing.T) {
	before := row(20)
	room := slices.Clone(before)
	for _, n := range []int{1, 2, 3, 7, 8, 100, 256} {
		for i := range n {
			length := len(sides(i, n))
			if got, want := fold(t, full(1), i, n, room[:length]), wantFold(full(1), i, n, before[:length]); got != want {
				t.Errorf("leaf %d of %d: what lies behind the path counts", i, n)
			}
			wantNoFold(t, full(1), i, n, room[:length+1], api.ErrLength)
			if length > 0 {
				wantNoFold(t, full(1), i, n, room[:length-1], api.ErrLength)
			}
		}
		if !slices.Equal(room, before) {
			t.Fatalf("%d leaves: the path was written into", n)
		}
	}
}

func TestPathsAreFresh(t *testing.T) {
	for _, n := range []int{2, 3, 7, 8, 100} {
		ls := row(n)
		for i := range ls {
			want := wantPath(ls, i)
			first, second := path(t, ls, i), path(t, ls, i)
			clear(first[:cap(first)])
			if !slices.Equal(second, want) {
				t.Errorf("leaf %d of %d: two paths share memory", i, n)
			}
			if !slices.Equal(ls, row(n)) {
				t.Fatalf("leaf %d of %d: its path and the leaves share memory", i, n)
			}
			changed := slices.Clone(ls)
			third := path(t, changed, i)
			clear(changed)
			if !slices.Equal(third, want) {
				t.Errorf("leaf %d of %d: its path hangs on what was done with the leaves", i, n)
			}
		}
	}
}
