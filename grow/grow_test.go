package grow_test

import (
	"crypto/sha256"
	"math"
	"slices"
	"testing"

	"oathbook/api"
	"oathbook/grow"
	"oathbook/octet"
	"oathbook/plain"
	"oathbook/tree"
)

// pair: the Root of the first leaves, and that of all.
type pair struct{ first, all api.Digest }

// full: a digest whose bytes are all x.
func full(x byte) api.Digest {
	var d api.Digest
	for i := range d {
		d[i] = x
	}
	return d
}

// flip: the digest with its bit i another one.
func flip(d api.Digest, i int) api.Digest {
	d[i/8] ^= 128 >> (i % 8)
	return d
}

// row: so many leaves, each of a byte that tells its place.
func row(n int) []api.Digest {
	var ls []api.Digest
	for i := range n {
		ls = append(ls, sha256.Sum256([]byte{0, byte(i)}))
	}
	return ls
}

// steps: so many digests of which no list was made: of bytes 1, of bytes 2, and so on.
func steps(n int) []api.Digest {
	var ds []api.Digest
	for i := range n {
		ds = append(ds, full(byte(i+1)))
	}
	return ds
}

// lists: leaves of several numbers, powers of 2 and those about them among them, and one list of which all are alike.
func lists() [][]api.Digest {
	var all [][]api.Digest
	for n := 1; n <= 34; n++ {
		all = append(all, row(n))
	}
	for _, n := range []int{63, 64, 65, 100, 127, 128, 129, 192, 193, 255, 256} {
		all = append(all, row(n))
	}
	return append(all, make([]api.Digest, 21))
}

// tooMany: numbers of leaves that no tree has.
func tooMany() []int { return []int{257, 258, 300, 511, 512, 513, 1024, 65536, 65537} }

// wantNode: what Go's own library tells of a byte 1 and both digests.
func wantNode(l, r api.Digest) api.Digest {
	return sha256.Sum256(slices.Concat([]byte{1}, l[:], r[:]))
}

// wantSplit: the greatest power of 2 below n.
func wantSplit(n int) int {
	k := 1
	for 2*k < n {
		k *= 2
	}
	return k
}

// wantRoot: the Root of some leaves.
func wantRoot(ls []api.Digest) api.Digest {
	if len(ls) == 1 {
		return ls[0]
	}
	k := wantSplit(len(ls))
	return wantNode(wantRoot(ls[:k]), wantRoot(ls[k:]))
}

// wantProof: the chapter's (m, n, own) of n leaves.
func wantProof(ls []api.Digest, m int, own bool) []api.Digest {
	n := len(ls)
	if m == n && own {
		return nil
	}
	if m == n {
		return []api.Digest{wantRoot(ls)}
	}
	k := wantSplit(n)
	if m <= k {
		return append(wantProof(ls[:k], m, own), wantRoot(ls[k:]))
	}
	return append(wantProof(ls[k:], m-k, false), wantRoot(ls[:k]))
}

// turns: on which side of the chapter's halvings the m-th leaf of n stands, from the inmost one out (is it the left one?), and own there.
func turns(m, n int) ([]bool, bool) {
	var sides []bool
	own := true
	for m != n {
		k := wantSplit(n)
		left := m <= k
		if left {
			n = k
		} else {
			m, n, own = m-k, n-k, false
		}
		sides = append(sides, left)
	}
	slices.Reverse(sides)
	return sides, own
}

// wantLength: how many digests a proof of m and n has.
func wantLength(m, n int) int {
	sides, own := turns(m, n)
	if own {
		return len(sides)
	}
	return len(sides) + 1
}

// wantFold: what a proof of that length makes, from the inmost halving out.
func wantFold(m, n int, old api.Digest, proof []api.Digest) pair {
	sides, own := turns(m, n)
	both := pair{old, old}
	if !own {
		both, proof = pair{proof[0], proof[0]}, proof[1:]
	}
	for at, left := range sides {
		if left {
			both.all = wantNode(both.all, proof[at])
		} else {
			both.first, both.all = wantNode(proof[at], both.first), wantNode(proof[at], both.all)
		}
	}
	return both
}

// proof: what Proof tells, where it must tell something.
func proof(t *testing.T, ls []api.Digest, m int) []api.Digest {
	t.Helper()
	p, err := grow.Proof(ls, m)
	if err != nil {
		t.Fatalf("Proof of %d of %d: %v", m, len(ls), err)
	}
	return p
}

// fold: what Fold tells, where it must tell something.
func fold(t *testing.T, m, n int, old api.Digest, p []api.Digest) pair {
	t.Helper()
	first, all, err := grow.Fold(m, n, old, p)
	if err != nil {
		t.Fatalf("Fold of %d of %d with %d: %v", m, n, len(p), err)
	}
	return pair{first, all}
}

// wantNoProof: Proof tells this error, and nothing beside it.
func wantNoProof(t *testing.T, ls []api.Digest, m int, want api.Errno) {
	t.Helper()
	if p, err := grow.Proof(ls, m); plain.Told(err) != want || len(p) != 0 {
		t.Fatalf("Proof of %d of %d: got %x and %v, want %v", m, len(ls), p, err, want)
	}
}

// wantNoFold: Fold tells this error, and nothing beside it; and Check is false, also where it is asked for nothing.
func wantNoFold(t *testing.T, m, n int, old api.Digest, p []api.Digest, want api.Errno) {
	t.Helper()
	first, all, err := grow.Fold(m, n, old, p)
	if plain.Told(err) != want || first != (api.Digest{}) || all != (api.Digest{}) {
		t.Fatalf("Fold of %d of %d with %d: got %x, %x and %v, want %v", m, n, len(p), first, all, err, want)
	}
	for _, asked := range []pair{{old, old}, {old, api.Digest{}}, {api.Digest{}, api.Digest{}}} {
		if grow.Check(m, n, asked.first, asked.all, p) {
			t.Fatalf("Check of %d of %d with %d digests is true, and Fold tells %v", m, n, len(p), err)
		}
	}
}

// others: the proof with one digest less, or one more, at each place.
func others(p []api.Digest) [][]api.Digest {
	var all [][]api.Digest
	for at := range len(p) + 1 {
		all = append(all, slices.Insert(slices.Clone(p), at, full(1)))
		if at < len(p) {
			all = append(all, slices.Delete(slices.Clone(p), at, at+1))
		}
	}
	return all
}

// GW1: Proof.

// Proofs that another program has told of the chapter's words: no library is asked here.
func TestToldProofs(t *testing.T) {
	cases := []struct {
		n, m int
		want []string
	}{
		{1, 1, nil},
		{2, 1, []string{"b413f47d13ee2fe6c845b2ee141af81de858df4ec549a58b7970bb96645bc8d2"}},
		{2, 2, nil},
		{3, 1, []string{
			"b413f47d13ee2fe6c845b2ee141af81de858df4ec549a58b7970bb96645bc8d2",
			"fcf0a6c700dd13e274b6fba8deea8dd9b26e4eedde3495717cac8408c9c5177f"}},
		{3, 2, []string{"fcf0a6c700dd13e274b6fba8deea8dd9b26e4eedde3495717cac8408c9c5177f"}},
		{3, 3, nil},
		{7, 3, []string{
			"fcf0a6c700dd13e274b6fba8deea8dd9b26e4eedde3495717cac8408c9c5177f",
			"583c7dfb7b3055d99465544032a571e10a134b1b6f769422bbb71fd7fa167a5d",
			"a20bf9a7cc2dc8a08f5f415a71b19f6ac427bab54d24eec868b5d3103449953a",
			"89c929834ed1459b07f65b5e1a2143a8cf5d8efdf30f49ffffa328bb1d9133bb"}},
		{7, 4, []string{"89c929834ed1459b07f65b5e1a2143a8cf5d8efdf30f49ffffa328bb1d9133bb"}},
		{7, 6, []string{
			"4b8c129ed14cce2c08cfc6766db7f8cdb133b5f698b8de3d5890ea7ff7f0a8d1",
			"40d88127d4d31a3891f41598eeed41174e5bc89b1eb9bbd66a8cbfc09956a3fd",
			"9bcd51240af4005168f033121ba85be5a6ed4f0e6a5fac262066729b8fbfdecb"}},
		{8, 5, []string{
			"4f35212d12f9ad2036492c95f1fe79baf4ec7bd9bef3dffa7579f2293ff546a4",
			"9f1afa4dc124cba73134e82ff50f17c8f7164257c79fed9a13f5943a6acb8e3d",
			"bbb0feb32f648c73fe170518bcec1f675af1b780dc23d6fbf30b745c1ca5fa11",
			"9bcd51240af4005168f033121ba85be5a6ed4f0e6a5fac262066729b8fbfdecb"}},
		{129, 128, []string{"085edad400785fca7e7e90b1fac4beb776fc2beee5aa24352d5f39b5d57efcad"}},
		{256, 128, []string{"58e5fbe951fc9e6100fe8c97c2629c7226a9e0311a1f58a6306e8780210439b5"}},
		{256, 255, []string{
			"dcc3494d498009f15481bc423aeabcc2f8f5b0e6109192491eda8458032c8db6",
			"06eb7d6a69ee19e5fbdf749018d3d2abfa04bcbd1365db312eb86dc7169389b8",
			"839eeb100587c3436ed0e6fa537f8d5dcdf7594e449ad9be7306b2aa07d59f18",
			"fb96943b7bf1ce33597bf3eb57c602e2935a04faa7db1baefbba859f30516aac",
			"b69c872c2041359328bfa7fe615f350494a4d143dc3b8cc3eec0f09aa66d58e1",
			"2c7a3d6c45076cef44f8483bfbc74191d6961011092c0b79586aac112836a715",
			"9128df7de928f726b50fdc71b71f826223f70d991c060fbb06b95358cb68aa3f",
			"4af5be83a535882ef75b295808293a9467f415a41c364556c9b6fe2e60d2e176",
			"ec2904d816d8b08fbd3773a0ebe5bbe677eba157f28b35be83b8cefc297fe153"}},
	}
	for _, c := range cases {
		var got []string
		for _, d := range proof(t, row(c.n), c.m) {
			got = append(got, octet.Hex(d[:]))
		}
		if !slices.Equal(got, c.want) {
			t.Errorf("%d of %d: got %q, want %q", c.m, c.n, got, c.want)
		}
	}
}

// Small trees, written out by Node.
func TestProofOfFew(t *testing.T) {
	node := tree.Node
	ls := row(8)
	a, b, c, d, e, f, g, h := ls[0], ls[1], ls[2], ls[3], ls[4], ls[5], ls[6], ls[7]
	ab, cd, ef, gh := node(a, b), node(c, d), node(e, f), node(g, h)
	abcd, efg, efgh := node(ab, cd), node(ef, g), node(ef, gh)
	type list = []api.Digest
	for n, want := range map[int][]list{
		1: {{}},
		2: {{b}, {}},
		3: {{b, c}, {c}, {}},
		4: {{b, cd}, {cd}, {c, d, ab}, {}},
		5: {{b, cd, e}, {cd, e}, {c, d, ab, e}, {e}, {}},
		6: {{b, cd, ef}, {cd, ef}, {c, d, ab, ef}, {ef}, {e, f, abcd}, {}},
		7: {{b, cd, efg}, {cd, efg}, {c, d, ab, efg}, {efg}, {e, f, g, abcd}, {ef, g, abcd}, {}},
		8: {{b, cd, efgh}, {cd, efgh}, {c, d, ab, efgh}, {efgh}, {e, f, gh, abcd}, {ef, gh, abcd}, {g, h, ef, abcd}, {}},
	} {
		for at := range want {
			if got := proof(t, ls[:n], at+1); !slices.Equal(got, want[at]) {
				t.Errorf("%d of %d: got %x, want %x", at+1, n, got, want[at])
			}
		}
	}
}

func TestProofOfEveryNumber(t *testing.T) {
	for _, ls := range lists() {
		for m := 1; m <= len(ls); m++ {
			if got, want := proof(t, ls, m), wantProof(ls, m, true); !slices.Equal(got, want) {
				t.Errorf("%d of %d: got %x, want %x", m, len(ls), got, want)
			}
		}
	}
}

// Of all leaves nothing need be shown.
func TestProofOfAllIsNothing(t *testing.T) {
	for n := 1; n <= api.MaxLeaves; n++ {
		if got := proof(t, row(n), n); len(got) != 0 {
			t.Errorf("%d of %d: got %x", n, n, got)
		}
	}
}

// Who has the Root of the first m is not told it, where they stand in one piece of the tree: of powers of 2.
func TestProofLeavesOutWhatIsKnown(t *testing.T) {
	for _, n := range []int{2, 3, 7, 8, 100, 255, 256} {
		ls := row(n)
		for m := 1; m < n; m *= 2 {
			known := wantRoot(ls[:m])
			if p := proof(t, ls, m); slices.Contains(p, known) {
				t.Errorf("%d of %d: the Root of the first ones is in %x", m, n, p)
			}
		}
	}
}

func TestProofOfTooMany(t *testing.T) {
	for _, n := range tooMany() {
		ls := row(n)
		for _, m := range []int{1, 2, 128, 255, 256, 257, n - 1, n, n + 1, 0, -1, -n, math.MinInt, math.MaxInt} {
			wantNoProof(t, ls, m, api.ErrFull)
		}
	}
}

func TestProofOfNoNumber(t *testing.T) {
	for n := range api.MaxLeaves + 1 {
		ls := row(n)
		for _, m := range []int{0, -1, -2, -n - 1, -256, -257, math.MinInt, math.MinInt + 1, n + 1, n + 2, 2*n + 1, 257, 1 << 32, 1<<32 + 1, math.MaxInt} {
			wantNoProof(t, ls, m, api.ErrRange)
		}
	}
	for _, ls := range [][]api.Digest{nil, {}, row(5)[:0]} {
		for _, m := range []int{0, 1, 2, 256} {
			wantNoProof(t, ls, m, api.ErrRange)
		}
	}
}

// GW2: Fold.

// Roots that another program has told of a digest of bytes 200 and digests of bytes 1, 2, and so on.
func TestToldFolds(t *testing.T) {
	cases := []struct {
		m, n, length int
		first, all   string
	}{
		{1, 1, 0,
			"c8c8c8c8c8c8c8c8c8c8c8c8c8c8c8c8c8c8c8c8c8c8c8c8c8c8c8c8c8c8c8c8",
			"c8c8c8c8c8c8c8c8c8c8c8c8c8c8c8c8c8c8c8c8c8c8c8c8c8c8c8c8c8c8c8c8"},
		{256, 256, 0,
			"c8c8c8c8c8c8c8c8c8c8c8c8c8c8c8c8c8c8c8c8c8c8c8c8c8c8c8c8c8c8c8c8",
			"c8c8c8c8c8c8c8c8c8c8c8c8c8c8c8c8c8c8c8c8c8c8c8c8c8c8c8c8c8c8c8c8"},
		{1, 2, 1,
			"c8c8c8c8c8c8c8c8c8c8c8c8c8c8c8c8c8c8c8c8c8c8c8c8c8c8c8c8c8c8c8c8",
			"f044154acb8a2d138c6093828a5c15ee0f98cb88c543300dc277efa7ba7d37ad"},
		{2, 3, 1,
			"c8c8c8c8c8c8c8c8c8c8c8c8c8c8c8c8c8c8c8c8c8c8c8c8c8c8c8c8c8c8c8c8",
			"f044154acb8a2d138c6093828a5c15ee0f98cb88c543300dc277efa7ba7d37ad"},
		{3, 4, 3,
			"e51011eba8bbe976e1d70c8c1e8c25492bb98eb51bbbe5de027b2afc88574f6c",
			"d4aa435962bb46ffa411e314b19e92d03eb62b294772574a7aea47f0a24ffec6"},
		{3, 7, 4,
			"e51011eba8bbe976e1d70c8c1e8c25492bb98eb51bbbe5de027b2afc88574f6c",
			"e85ead32ed0c8464329d0c1fbe773c7b0d3ffe651686d6c0996bdda4f355c4d5"},
		{4, 7, 1,
			"c8c8c8c8c8c8c8c8c8c8c8c8c8c8c8c8c8c8c8c8c8c8c8c8c8c8c8c8c8c8c8c8",
			"f044154acb8a2d138c6093828a5c15ee0f98cb88c543300dc277efa7ba7d37ad"},
		{6, 7, 3,
			"e51011eba8bbe976e1d70c8c1e8c25492bb98eb51bbbe5de027b2afc88574f6c",
			"d4aa435962bb46ffa411e314b19e92d03eb62b294772574a7aea47f0a24ffec6"},
		{6, 8, 3,
			"e51011eba8bbe976e1d70c8c1e8c25492bb98eb51bbbe5de027b2afc88574f6c",
			"d4aa435962bb46ffa411e314b19e92d03eb62b294772574a7aea47f0a24ffec6"},
		{100, 256, 7,
			"1ac914c35bb839ef64e792800d5ccc2f4ec7aec53301ba1104073a84d767bbe5",
			"7b758b64bc2e70e71904cdb0458e5298bb41dba4ea8eed08776c352d5f9c6a00"},
		{255, 256, 9,
			"938efabd957602618df0701f11bbac6e0e7d70f41da698262b48794a35c3eca9",
			"648cd85485259f7d274ac106b0275f58b09a4830eb17cdf10ecd264c14d6a33a"},
	}
	for _, c := range cases {
		got := fold(t, c.m, c.n, full(200), steps(c.length))
		if first, all := octet.Hex(got.first[:]), octet.Hex(got.all[:]); first != c.first || all != c.all {
			t.Errorf("%d of %d: got %s and %s, want %s and %s", c.m, c.n, first, all, c.first, c.all)
		}
	}
}

// Small proofs, written out by Node.
func TestFoldOfFew(t *testing.T) {
	node := tree.Node
	o, a, b, c, d := full(200), full(1), full(2), full(3), full(4)
	cases := []struct {
		m, n  int
		proof []api.Digest
		want  pair
	}{
		{1, 1, nil, pair{o, o}},
		{5, 5, nil, pair{o, o}},
		{1, 2, []api.Digest{a}, pair{o, node(o, a)}},
		{2, 3, []api.Digest{a}, pair{o, node(o, a)}},
		{1, 3, []api.Digest{a, b}, pair{o, node(node(o, a), b)}},
		{1, 4, []api.Digest{a, b}, pair{o, node(node(o, a), b)}},
		{3, 4, []api.Digest{a, b, c}, pair{node(c, a), node(c, node(a, b))}},
		{3, 5, []api.Digest{a, b, c, d}, pair{node(c, a), node(node(c, node(a, b)), d)}},
		{5, 6, []api.Digest{a, b, c}, pair{node(c, a), node(c, node(a, b))}},
		{7, 8, []api.Digest{a, b, c, d}, pair{node(d, node(c, a)), node(d, node(c, node(a, b)))}},
	}
	for _, e := range cases {
		if got := fold(t, e.m, e.n, o, e.proof); got != e.want {
			t.Errorf("%d of %d: got %x, want %x", e.m, e.n, got, e.want)
		}
	}
}

func TestFoldOfProofIsBothRoots(t *testing.T) {
	for _, ls := range lists() {
		n := len(ls)
		for m := 1; m <= n; m++ {
			want := pair{wantRoot(ls[:m]), wantRoot(ls)}
			p := proof(t, ls, m)
			if got := fold(t, m, n, want.first, p); got != want {
				t.Errorf("%d of %d: got %x, want %x", m, n, got, want)
			}
			if !grow.Check(m, n, want.first, want.all, p) {
				t.Errorf("%d of %d: Check of its Proof and both Roots is false", m, n)
			}
		}
	}
}

// The same beside the Roots that the program itself tells.
func TestFoldBesideTree(t *testing.T) {
	for _, n := range []int{1, 2, 3, 11, 16, 200, 256} {
		ls := row(n)
		all, _ := tree.Root(ls)
		for m := 1; m <= n; m++ {
			first, _ := tree.Root(ls[:m])
			if got := fold(t, m, n, first, proof(t, ls, m)); got != (pair{first, all}) {
				t.Errorf("%d of %d: got %x, want %x and %x", m, n, got, first, all)
			}
		}
	}
}

// Each m of each n, with a proof that no list made.
func TestFoldOfEveryNumber(t *testing.T) {
	old, digests := full(200), steps(9)
	for n := 1; n <= api.MaxLeaves; n++ {
		for m := 1; m <= n; m++ {
			p := digests[:wantLength(m, n)]
			if got, want := fold(t, m, n, old, p), wantFold(m, n, old, p); got != want {
				t.Fatalf("%d of %d: got %x, want %x", m, n, got, want)
			}
		}
	}
}

// byBits: another way to the same, which goes by the bits of m - 1 and n - 1, as others check such proofs.
func byBits(m, n int, old api.Digest, p []api.Digest) pair {
	if m == n {
		return pair{old, old}
	}
	if m&(m-1) == 0 {
		p = append([]api.Digest{old}, p...)
	}
	a, b := m-1, n-1
	for a%2 == 1 {
		a, b = a/2, b/2
	}
	both := pair{p[0], p[0]}
	for _, d := range p[1:] {
		if a%2 == 1 || a == b {
			both = pair{wantNode(d, both.first), wantNode(d, both.all)}
			for a%2 == 0 && a != 0 {
				a, b = a/2, b/2
			}
		} else {
			both.all = wantNode(both.all, d)
		}
		a, b = a/2, b/2
	}
	return both
}

func TestFoldByBits(t *testing.T) {
	old, digests := full(200), steps(9)
	for n := 1; n <= api.MaxLeaves; n++ {
		for m := 1; m <= n; m++ {
			p := digests[:wantLength(m, n)]
			if got, want := fold(t, m, n, old, p), byBits(m, n, old, p); got != want {
				t.Fatalf("%d of %d: got %x, want %x", m, n, got, want)
			}
		}
	}
}

// Another old digest counts where the proof does not tell the first Root itself, and nowhere else.
func TestFoldOfAnotherOld(t *testing.T) {
	for _, ls := range lists() {
		n := len(ls)
		for m := 1; m <= n; m++ {
			was := pair{wantRoot(ls[:m]), wantRoot(ls)}
			other := flip(was.first, (m*37)%256)
			p := proof(t, ls, m)
			got := fold(t, m, n, other, p)
			if want := wantFold(m, n, other, p); got != want {
				t.Errorf("%d of %d: got %x, want %x", m, n, got, want)
			}
			if _, own := turns(m, n); own == (got == was) {
				t.Errorf("%d of %d: are both Roots still told? %v", m, n, got == was)
			}
			if grow.Check(m, n, other, was.all, p) || grow.Check(m, n, other, got.all, p) != (got.first == other) {
				t.Errorf("%d of %d: Check goes by another old digest", m, n)
			}
		}
	}
}

func TestFoldOfAChangedProof(t *testing.T) {
	for _, n := range []int{2, 3, 5, 6, 7, 8, 21, 129, 255, 256} {
		ls := row(n)
		for m := 1; m <= n; m++ {
			was := pair{wantRoot(ls[:m]), wantRoot(ls)}
			p := proof(t, ls, m)
			for at := range p {
				changed := slices.Clone(p)
				changed[at] = flip(changed[at], (m*37+at)%256)
				got := fold(t, m, n, was.first, changed)
				if want := wantFold(m, n, was.first, changed); got != want || got.all == was.all {
					t.Errorf("%d of %d, digest %d changed: got %x, want %x, and not %x", m, n, at, got, want, was)
				}
				if grow.Check(m, n, was.first, was.all, changed) {
					t.Errorf("%d of %d, digest %d changed: Check is true", m, n, at)
				}
			}
		}
	}
}

func TestFoldOfOtherOrders(t *testing.T) {
	for _, n := range []int{3, 5, 7, 8, 21, 256} {
		ls := row(n)
		for m := 1; m <= n; m++ {
			was := pair{wantRoot(ls[:m]), wantRoot(ls)}
			p := proof(t, ls, m)
			for at := 1; at < len(p); at++ {
				turned := slices.Clone(p)
				turned[at-1], turned[at] = turned[at], turned[at-1]
				got := fold(t, m, n, was.first, turned)
				if want := wantFold(m, n, was.first, turned); got != want || got.all == was.all {
					t.Errorf("%d of %d, digest %d turned: got %x, want %x, and not %x", m, n, at, got, want, was)
				}
				if grow.Check(m, n, was.first, was.all, turned) {
					t.Errorf("%d of %d, digest %d turned: Check is true", m, n, at)
				}
			}
		}
	}
}

// Other lengths than its own, for each m of each n.
func TestFoldOfOtherLengths(t *testing.T) {
	long := row(14)
	for n := 1; n <= api.MaxLeaves; n++ {
		for m := 1; m <= n; m++ {
			for length := range long {
				// All of them for few leaves, and one more and one less for many.
				off := length - wantLength(m, n)
				if off == -1 || off == 1 || off != 0 && n <= 40 {
					wantNoFold(t, m, n, full(1), long[:length], api.ErrLength)
				}
			}
		}
	}
	for _, n := range []int{1, 2, 3, 8, 255, 256} {
		for _, length := range []int{257, 1 << 16, 1<<16 + 1, 1<<16 + 8} {
			wantNoFold(t, 1, n, full(1), make([]api.Digest, length), api.ErrLength)
			wantNoFold(t, n, n, full(1), make([]api.Digest, length), api.ErrLength)
		}
	}
}

// A Proof with one digest more, at each place, or with one less.
func TestFoldOfLongerAndShorterProofs(t *testing.T) {
	for _, ls := range lists() {
		n, all := len(ls), wantRoot(ls)
		for m := 1; m <= n; m++ {
			first := wantRoot(ls[:m])
			for _, p := range others(proof(t, ls, m)) {
				wantNoFold(t, m, n, first, p, api.ErrLength)
				if grow.Check(m, n, first, all, p) {
					t.Fatalf("%d of %d: Check with %d digests is true", m, n, len(p))
				}
			}
		}
	}
}

// Of too few leaves or too many, whatever m and however long the proof.
func TestFoldOfNoNumber(t *testing.T) {
	for _, n := range []int{0, -1, -2, -255, -256, math.MinInt, math.MinInt + 1, 257, 258, 511, 512, 1 << 32, 1<<32 + 1, math.MaxInt} {
		for _, m := range []int{0, 1, 2, 128, 255, 256, n - 1, n, n + 1, -1, math.MinInt, math.MaxInt} {
			for _, length := range []int{0, 1, 8, 9, 10, 300} {
				wantNoFold(t, m, n, full(1), make([]api.Digest, length), api.ErrRange)
			}
		}
	}
}

// With m that is none of theirs, however long the proof.
func TestFoldOfNoneOfThem(t *testing.T) {
	for n := 1; n <= api.MaxLeaves; n++ {
		for _, m := range []int{0, -1, -2, -n, -256, math.MinInt, math.MinInt + 1, n + 1, n + 2, 2*n + 1, 257, 1 << 32, 1<<32 + 1, math.MaxInt} {
			for _, length := range []int{0, 1, 2, wantLength(1, n), 9, 300} {
				wantNoFold(t, m, n, full(1), make([]api.Digest, length), api.ErrRange)
			}
		}
	}
}

// GW2: Check.

// Either Root, with one bit of it changed or the other one in its place.
func TestCheckOfOtherRoots(t *testing.T) {
	for _, ls := range lists() {
		n, all := len(ls), wantRoot(ls)
		for m := 1; m <= n; m++ {
			first, p := wantRoot(ls[:m]), proof(t, ls, m)
			bit := (m*37 + n) % 256
			wrong := []pair{{flip(first, bit), all}, {first, flip(all, bit)}, {api.Digest{}, all}, {first, api.Digest{}}}
			if m < n {
				wrong = append(wrong, pair{all, first}, pair{all, all}, pair{first, first},
					pair{flip(first, bit), flip(all, bit)}, pair{api.Digest{}, api.Digest{}})
			}
			for _, asked := range wrong {
				// The first leaf of a list whose leaves are all of bytes 0 is its own Root.
				if asked != (pair{first, all}) && grow.Check(m, n, asked.first, asked.all, p) {
					t.Errorf("%d of %d: Check of %x is true", m, n, asked)
				}
			}
		}
	}
}

// Of all leaves the Root is the same as before, whichever it is.
func TestCheckOfAll(t *testing.T) {
	for n := 1; n <= api.MaxLeaves; n++ {
		for _, d := range []api.Digest{{}, full(255), {1}, {31: byte(n)}} {
			for _, p := range [][]api.Digest{nil, {}} {
				if !grow.Check(n, n, d, d, p) || grow.Check(n, n, d, flip(d, n-1), p) || grow.Check(n, n, flip(d, n-1), d, p) {
					t.Errorf("%d of %d: Check does not go by whether both are the same", n, n)
				}
			}
		}
	}
}

// Each bit of either Root counts.
func TestCheckOfEveryBit(t *testing.T) {
	for _, c := range []struct{ m, n int }{{1, 1}, {4, 4}, {4, 7}, {6, 7}, {200, 256}} {
		ls := row(c.n)
		first, all, p := wantRoot(ls[:c.m]), wantRoot(ls), proof(t, ls, c.m)
		for bit := range 256 {
			if grow.Check(c.m, c.n, flip(first, bit), all, p) || grow.Check(c.m, c.n, first, flip(all, bit), p) {
				t.Errorf("%d of %d, bit %d changed: Check is true", c.m, c.n, bit)
			}
		}
	}
}

// A list that lost or changed one of its first leaves has no proof that goes with the Root of before.
func TestCheckOfAnotherPast(t *testing.T) {
	for _, n := range []int{2, 3, 7, 8, 21} {
		ls := row(n)
		for m := 1; m <= n; m++ {
			before := wantRoot(ls[:m])
			for at := range m {
				changed := slices.Clone(ls)
				changed[at] = flip(changed[at], at)
				p := proof(t, changed, m)
				if grow.Check(m, n, before, wantRoot(changed), p) || grow.Check(m, n, before, wantRoot(changed), proof(t, ls, m)) {
					t.Errorf("%d of %d, leaf %d changed: Check is true", m, n, at)
				}
			}
			for at := m; at < n; at++ {
				changed := slices.Clone(ls)
				changed[at] = flip(changed[at], at)
				if !grow.Check(m, n, before, wantRoot(changed), proof(t, changed, m)) {
					t.Errorf("%d of %d, leaf %d changed, which came later: Check is false", m, n, at)
				}
			}
		}
	}
}

// Both Roots and the Proof of one m and n, with others out of range.
func TestCheckOutOfRange(t *testing.T) {
	for _, n := range []int{1, 2, 3, 8, 255, 256} {
		ls := row(n)
		for _, m := range []int{1, (n + 1) / 2, n} {
			first, all, p := wantRoot(ls[:m]), wantRoot(ls), proof(t, ls, m)
			for _, far := range []int{0, -1, -m, -n, -256, 257, 258, 1 << 32, 1<<32 + m, math.MinInt, math.MinInt + 1, math.MaxInt} {
				if grow.Check(far, n, first, all, p) || grow.Check(m, far, first, all, p) || grow.Check(far, far, first, first, nil) {
					t.Errorf("%d of %d, and %d: Check is true", m, n, far)
				}
			}
			if grow.Check(n+1, n, first, all, p) || m > 1 && grow.Check(m, m-1, first, all, p) {
				t.Errorf("%d of %d: Check of more than all is true", m, n)
			}
		}
	}
}

// P2, P4: what is handed in stays, with what lies behind its length, and is not kept; what comes out is fresh.

func TestLeavesStay(t *testing.T) {
	before := row(api.MaxLeaves)
	room := slices.Clone(before)
	for _, n := range []int{0, 1, 2, 3, 7, 8, 100, 255} {
		for m := 1; m <= n; m++ {
			if !slices.Equal(proof(t, room[:n], m), wantProof(before[:n], m, true)) {
				t.Errorf("%d of %d: what lies behind them counts", m, n)
			}
		}
		wantNoProof(t, room[:n], n+1, api.ErrRange)
		if !slices.Equal(room, before) {
			t.Fatalf("%d leaves: they were written into", n)
		}
	}
}

func TestProofsStay(t *testing.T) {
	before := steps(20)
	room := slices.Clone(before)
	for _, n := range []int{1, 2, 3, 7, 8, 100, 256} {
		for m := 1; m <= n; m++ {
			length := wantLength(m, n)
			want := wantFold(m, n, full(200), before[:length])
			if got := fold(t, m, n, full(200), room[:length]); got != want {
				t.Errorf("%d of %d: what lies behind the proof counts", m, n)
			}
			if !grow.Check(m, n, want.first, wantFold(m, n, want.first, before[:length]).all, room[:length]) {
				t.Errorf("%d of %d: Check is false", m, n)
			}
			wantNoFold(t, m, n, full(200), room[:length+1], api.ErrLength)
			if length > 0 {
				wantNoFold(t, m, n, full(200), room[:length-1], api.ErrLength)
			}
		}
		if !slices.Equal(room, before) {
			t.Fatalf("%d leaves: the proof was written into", n)
		}
	}
}

func TestProofsAreFresh(t *testing.T) {
	for _, n := range []int{2, 3, 7, 8, 100} {
		ls := row(n)
		for m := 1; m <= n; m++ {
			want := wantProof(ls, m, true)
			first, second := proof(t, ls, m), proof(t, ls, m)
			clear(first[:cap(first)])
			if !slices.Equal(second, want) {
				t.Errorf("%d of %d: two proofs share memory", m, n)
			}
			if !slices.Equal(ls, row(n)) {
				t.Fatalf("%d of %d: the proof and the leaves share memory", m, n)
			}
			changed := slices.Clone(ls)
			third := proof(t, changed, m)
			clear(changed)
			if !slices.Equal(third, want) {
				t.Errorf("%d of %d: the proof hangs on what was done with the leaves", m, n)
			}
		}
	}
}

// A Fold that failed leaves nothing behind: the next one tells what it told before.
func TestFoldAfterAnError(t *testing.T) {
	ls := row(7)
	want := pair{wantRoot(ls[:6]), wantRoot(ls)}
	p := proof(t, ls, 6)
	for range 3 {
		wantNoFold(t, 6, 7, want.first, p[1:], api.ErrLength)
		wantNoFold(t, 6, 7, want.first, nil, api.ErrLength)
		if got := fold(t, 6, 7, want.first, p); got != want {
			t.Errorf("got %x, want %x", got, want)
		}
	}
}
