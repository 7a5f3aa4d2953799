package trie_test

import (
	"crypto/sha256"
	"encoding/binary"
	"math"
	"slices"
	"testing"

	"oathbook/api"
	"oathbook/octet"
	"oathbook/plain"
	"oathbook/sha"
	"oathbook/trie"
)

// last: the greatest key.
const last = 1<<32 - 1

// nothing: what stands where no entry is.
var nothing api.Digest

// rising: a digest whose bytes are 0 to 31.
func rising() api.Digest {
	var d api.Digest
	for i := range d {
		d[i] = byte(i)
	}
	return d
}

// full: a digest whose bytes are all x.
func full(x byte) api.Digest {
	var d api.Digest
	for i := range d {
		d[i] = x
	}
	return d
}

// flip: the digest with its bit i another one.
func flip(d api.Digest, i int) api.Digest {
	d[i/8] ^= 128 >> (i % 8)
	return d
}

// steps: so many digests that no map made: of bytes 1, of bytes 2, and so on.
func steps(n int) []api.Digest {
	var ds []api.Digest
	for i := range n {
		ds = append(ds, full(byte(i+1)))
	}
	return ds
}

// entries: an entry of each key, in order, of bytes 1, of bytes 2, and so on.
func entries(keys ...int) []api.Entry {
	var es []api.Entry
	for i, k := range keys {
		es = append(es, api.Entry{Key: k, Val: full(byte(i + 1))})
	}
	return es
}

// many: so many entries, each key so far from the one ahead of it, and turned about 2^32.
func many(n, first, apart int) []api.Entry {
	var keys []int
	for i := range n {
		keys = append(keys, (first+i*apart)&last)
	}
	return entries(keys...)
}

// spread: how far keys are from one another that stand all over, and look like none.
const spread = 2654435761

// maps: maps of several numbers, of keys that part at the highest bit, at the lowest one, and in between.
func maps() [][]api.Entry {
	all := [][]api.Entry{
		nil, {}, entries(0), entries(1), entries(last), entries(1 << 31), entries(0x12345678),
		entries(0, last), entries(0x7fffffff, 0x80000000), entries(5, 1<<31),
		entries(0x12345678, 0x12345679, 0x1234567a), entries(3, 1<<16, 7, last-1, last),
		entries(0, 1, 2, 3, 4, 5, 6), entries(last, 0, 1<<31, 1<<31-1, 1, last-1),
		{{Key: 9}}, {{Key: 9}, {Key: 8}}, {{Key: 1 << 31, Val: full(3)}, {Key: 0, Val: full(3)}},
	}
	for bit := range 32 {
		all = append(all, entries(0, 1<<bit), entries(0x5a5a5a5a, 0x5a5a5a5a^1<<bit))
	}
	for _, n := range []int{2, 3, 8, 31, 63, 64} {
		all = append(all, many(n, 0, spread))
	}
	return append(all, many(64, 0, 1), many(64, 0, 1<<26), many(64, last-63, 1), many(64, 1<<31-32, 1), many(64, 77, 1<<13))
}

// asked: keys of which a map is asked: its own, those beside them at each bit, and some others.
func asked(es []api.Entry) []int {
	keys := []int{0, 1, 6, 1 << 31, last, 0x0f0f3355}
	for i, e := range es {
		keys = append(keys, e.Key, e.Key^1, e.Key^1<<(i%32))
	}
	return keys
}

// outside: numbers that are no keys.
func outside() []int {
	return []int{-1, -2, -31, -32, -64, -256, -1 << 16, -1 << 31, -1<<31 - 1, -last, -1 << 32, -1<<32 - 1, -1 << 33, math.MinInt, math.MinInt + 1, math.MinInt + 5,
		1 << 32, 1<<32 + 1, 1<<32 + 5, 1<<32 + last, 1 << 33, 1<<33 - 1, 1 << 40, 1<<40 + 5, 1 << 48, 1 << 62, math.MaxInt - 1, math.MaxInt}
}

// wantLeaf: what Go's own library tells of a byte 9, the Key in 4 bytes, and Val.
func wantLeaf(e api.Entry) api.Digest {
	b := binary.BigEndian.AppendUint32([]byte{9}, uint32(e.Key))
	return sha256.Sum256(append(b, e.Val[:]...))
}

// wantNode: nothing of nothing; else what Go's own library tells of a byte 10 and both.
func wantNode(l, r api.Digest) api.Digest {
	if l == nothing && r == nothing {
		return nothing
	}
	return sha256.Sum256(slices.Concat([]byte{10}, l[:], r[:]))
}

// parted: those of entries whose bit is 0, and those whose bit is 1.
func parted(es []api.Entry, bit int) (zeros, ones []api.Entry) {
	for _, e := range es {
		if e.Key>>bit&1 == 0 {
			zeros = append(zeros, e)
		} else {
			ones = append(ones, e)
		}
	}
	return zeros, ones
}

// wantUnder: the chapter's root of keys that begin alike, of which so many bits are left.
func wantUnder(es []api.Entry, bits int) api.Digest {
	switch {
	case len(es) == 0: // Nodes of nothing are nothing, all the way down
		return nothing
	case bits == 0:
		return wantLeaf(es[0])
	}
	zeros, ones := parted(es, bits-1)
	return wantNode(wantUnder(zeros, bits-1), wantUnder(ones, bits-1))
}

// wantRoot: the chapter's Root.
func wantRoot(es []api.Entry) api.Digest { return wantUnder(es, 32) }

// wantPath: the chapter's Path: what stands on the other side at each bit, the lowest one first.
func wantPath(es []api.Entry, key int) []api.Digest {
	path := make([]api.Digest, 32)
	for bit := 31; bit >= 0; bit-- {
		zeros, ones := parted(es, bit)
		if key>>bit&1 == 0 {
			es, path[bit] = zeros, wantUnder(ones, bit)
		} else {
			es, path[bit] = ones, wantUnder(zeros, bit)
		}
	}
	return path
}

// wantAt: what stands at a key: the Leaf of its entry, or nothing.
func wantAt(es []api.Entry, key int) api.Digest {
	for _, e := range es {
		if e.Key == key {
			return wantLeaf(e)
		}
	}
	return nothing
}

// wantFold: what a leaf and a path make, from it up.
func wantFold(key int, d api.Digest, path []api.Digest) api.Digest {
	for bit, beside := range path {
		if key>>bit&1 == 0 {
			d = wantNode(d, beside)
		} else {
			d = wantNode(beside, d)
		}
	}
	return d
}

// leaf: what Leaf tells, where it must tell something.
func leaf(t *testing.T, e api.Entry) api.Digest {
	t.Helper()
	d, err := trie.Leaf(e)
	if err != nil {
		t.Fatalf("Leaf of key %d: %v", e.Key, err)
	}
	return d
}

// root: what Root tells, where it must tell something.
func root(t *testing.T, es []api.Entry) api.Digest {
	t.Helper()
	d, err := trie.Root(es)
	if err != nil {
		t.Fatalf("Root of %d: %v", len(es), err)
	}
	return d
}

// path: what Path tells, where it must tell something.
func path(t *testing.T, es []api.Entry, key int) []api.Digest {
	t.Helper()
	p, err := trie.Path(es, key)
	if err != nil {
		t.Fatalf("Path of key %d in %d: %v", key, len(es), err)
	}
	return p
}

// fold: what Fold tells, where it must tell something.
func fold(t *testing.T, key int, l api.Digest, p []api.Digest) api.Digest {
	t.Helper()
	d, err := trie.Fold(key, l, p)
	if err != nil {
		t.Fatalf("Fold of key %d with %d: %v", key, len(p), err)
	}
	return d
}

// wantNoRoot: Root tells this error, and nothing beside it.
func wantNoRoot(t *testing.T, es []api.Entry, want api.Errno) {
	t.Helper()
	if d, err := trie.Root(es); plain.Told(err) != want || d != nothing {
		t.Errorf("Root of %d: got %x and %v, want %v", len(es), d, err, want)
	}
}

// wantNoPath: Path tells this error, and nothing beside it.
func wantNoPath(t *testing.T, es []api.Entry, key int, want api.Errno) {
	t.Helper()
	if p, err := trie.Path(es, key); plain.Told(err) != want || len(p) != 0 {
		t.Errorf("Path of key %d in %d: got %x and %v, want %v", key, len(es), p, err, want)
	}
}

// wantNoMap: Root tells this error, and Path too, of what key it ever is asked.
func wantNoMap(t *testing.T, es []api.Entry, want api.Errno) {
	t.Helper()
	wantNoRoot(t, es, want)
	for _, key := range []int{0, 5, 6, last, -1, 1 << 32, math.MinInt, math.MaxInt} {
		wantNoPath(t, es, key, want)
	}
	for _, e := range es[:min(len(es), 3)] {
		wantNoPath(t, es, e.Key, want)
	}
}

// wantNoFold: Fold tells this error, and nothing beside it.
func wantNoFold(t *testing.T, key int, l api.Digest, p []api.Digest, want api.Errno) {
	t.Helper()
	if d, err := trie.Fold(key, l, p); plain.Told(err) != want || d != nothing {
		t.Errorf("Fold of key %d with %d: got %x and %v, want %v", key, len(p), d, err, want)
	}
}

// sumOf: Hex of what Go's own library tells of digests, one behind the other.
func sumOf(ds []api.Digest) string {
	var b []byte
	for _, d := range ds {
		b = append(b, d[:]...)
	}
	sum := sha256.Sum256(b)
	return octet.Hex(sum[:])
}

// TI1: Leaf.

// Digests that another program has told of the chapter's words: no library is asked here.
func TestToldLeaves(t *testing.T) {
	cases := []struct {
		e    api.Entry
		want string
	}{
		{api.Entry{}, "6f702cea137375d57692f627b5ef93c49b5593d337f493f874335176203a1e56"},
		{api.Entry{Key: 1}, "2847be0a6429889631616cb4bcbdd13d7580e8ec8834fa7f16aee4547838441a"},
		{api.Entry{Key: last}, "0bb76b79120950889bc848d53266749b46df77b3045d02fb336348c8531dd36e"},
		{api.Entry{Key: 0x01020304, Val: rising()}, "2e0e0b9a45d1020b4db48c4e288a92236f55d33762a557f49fb91b06e3b61ada"},
		{api.Entry{Key: 1 << 24, Val: full(255)}, "1f0f80ef87ac296f0794a2e466c23179c1cbfa842f265ba7d7e1766606e8d6f9"},
		{api.Entry{Key: 255, Val: full(255)}, "c66177cd22ec861e45d1e344a6963fc4745ecd1ffa718ae46c26e75544f0c09b"},
		{api.Entry{Key: 1 << 31}, "86cb92ae5d6cbb45cb3aa65d671f7488dcdcb4bfaf339151949bb4bb7ce7bf0c"},
	}
	for _, c := range cases {
		if d := leaf(t, c.e); octet.Hex(d[:]) != c.want {
			t.Errorf("key %d: got %x, want %s", c.e.Key, d, c.want)
		}
	}
}

// The chapter's words, by the program's own Sum, with the key's bytes written out.
func TestLeafBySum(t *testing.T) {
	cases := []struct {
		key  int
		want []byte
	}{
		{0, []byte{0, 0, 0, 0}},
		{1, []byte{0, 0, 0, 1}},
		{256, []byte{0, 0, 1, 0}},
		{1 << 16, []byte{0, 1, 0, 0}},
		{1 << 24, []byte{1, 0, 0, 0}},
		{1 << 31, []byte{128, 0, 0, 0}},
		{0x01020304, []byte{1, 2, 3, 4}},
		{0xfefdfcfb, []byte{254, 253, 252, 251}},
		{last - 1, []byte{255, 255, 255, 254}},
		{last, []byte{255, 255, 255, 255}},
	}
	for _, c := range cases {
		for _, val := range []api.Digest{nothing, rising(), full(255)} {
			want := sha.Sum(slices.Concat([]byte{9}, c.want, val[:]))
			if got := leaf(t, api.Entry{Key: c.key, Val: val}); got != want {
				t.Errorf("key %d: got %x, want %x", c.key, got, want)
			}
		}
	}
}

// Each bit of a Key and of a Val counts.
func TestLeafOfEveryBit(t *testing.T) {
	seen := map[api.Digest]int{}
	hold := func(e api.Entry) {
		got := leaf(t, e)
		if want := wantLeaf(e); got != want {
			t.Errorf("key %d: got %x, want %x", e.Key, got, want)
		}
		seen[got]++
	}
	for bit := range 32 {
		hold(api.Entry{Key: 1 << bit, Val: full(7)})
		hold(api.Entry{Key: last ^ 1<<bit, Val: full(7)})
	}
	for bit := range 256 {
		hold(api.Entry{Key: 7, Val: flip(nothing, bit)})
	}
	for i := range 1000 {
		hold(api.Entry{Key: (i*spread + 3) & last, Val: full(byte(i))})
	}
	if len(seen) != 64+256+1000 {
		t.Errorf("two entries have one Leaf: %d of them", len(seen))
	}
}

func TestLeafOfNoKey(t *testing.T) {
	for _, key := range outside() {
		for _, val := range []api.Digest{nothing, rising()} {
			if d, err := trie.Leaf(api.Entry{Key: key, Val: val}); plain.Told(err) != api.ErrRange || d != nothing {
				t.Errorf("key %d: got %x and %v, want ErrRange", key, d, err)
			}
		}
	}
}

// TI1: Node.

func TestToldNodes(t *testing.T) {
	cases := []struct {
		l, r api.Digest
		want string
	}{
		{nothing, nothing, "0000000000000000000000000000000000000000000000000000000000000000"},
		{nothing, full(255), "448bd4a96681c8152cf7b2a83fc7c80640bc0bdbe823d91d7fd5e84145f5a5fc"},
		{full(255), nothing, "f1c3ced0ed57b137464106eb18862737fa909d54a515867d6ee1e944a2aa69c1"},
		{full(255), full(255), "2233a78dca6e1c4ae69468986f0a99547499301c78bbcdbe40b7e6f1d714c01c"},
		{api.Digest{1}, nothing, "93649aa041832d3d6f9eac70e7e0acf5f30fc1cea3d372aeaab4cdcaf1d466e1"},
		{nothing, api.Digest{31: 1}, "79f79fb20405294d9d90b22340195be49fd9041e8e13f911496d67314460c6be"},
		{rising(), full(255), "f96c83b77121fb476b1f58072e148f1abe7aeb155f4161f9783c0164147745b8"},
	}
	for _, c := range cases {
		if d := trie.Node(c.l, c.r); octet.Hex(d[:]) != c.want {
			t.Errorf("Node of %x and %x: got %x, want %s", c.l, c.r, d, c.want)
		}
	}
}

func TestNodeOfNothing(t *testing.T) {
	if d := trie.Node(nothing, nothing); d != nothing {
		t.Errorf("Node of nothing and nothing: got %x", d)
	}
}

// Each bit of either side counts, and is enough to be something.
func TestNodeOfEveryBit(t *testing.T) {
	for bit := range 256 {
		one := flip(nothing, bit)
		for _, pair := range [][2]api.Digest{{one, nothing}, {nothing, one}, {one, one}, {one, full(9)}, {full(9), one}} {
			got := trie.Node(pair[0], pair[1])
			if want := wantNode(pair[0], pair[1]); got != want || got == nothing {
				t.Errorf("Node of %x: got %x, want %x", pair, got, want)
			}
			if want := sha.Sum(slices.Concat([]byte{10}, pair[0][:], pair[1][:])); got != want {
				t.Errorf("Node of %x: got %x, and Sum tells %x", pair, got, want)
			}
		}
	}
}

// Which of two is on which side counts.
func TestNodeOfSides(t *testing.T) {
	for _, d := range []api.Digest{nothing, {1}, rising()} {
		if trie.Node(d, full(9)) == trie.Node(full(9), d) {
			t.Errorf("%x: both sides have one Node", d)
		}
	}
}

// TI2: Root.

// Roots that another program has told.
func TestToldRoots(t *testing.T) {
	cases := []struct {
		es   []api.Entry
		want string
	}{
		{nil, "0000000000000000000000000000000000000000000000000000000000000000"},
		{entries(0), "bc6f819da24a618e62c0e94d6a35ee04a31cb137fec8b2a960c0680afe5c94ae"},
		{entries(1), "d074da3ab6bb634624cd9161a2631a226ecd03e73f3ed83a37abfd1d0afc3ab4"},
		{entries(last), "85fc12d30778c62a3bc35939175271aec63a1626741306514dd2cf2469f47e3d"},
		{entries(1 << 31), "4d0ab1bfe248e40af0cf8d2ddaa1e3a342e6a27676c412eff8c27f5523cf3fd5"},
		{entries(0, 1), "1e520315461c2f35a6a768a54634c9df5f141b6baa38c0da6a73ffc7a2023408"},
		{entries(0, last), "4842a86112e3ff53258931fa2a4ec76c46b526b8f8099ddf3f1324ffce21d311"},
		{entries(0, 1<<31), "6bf7e827397e61e034fe02b736c7aa077c017c142a7efda42d7b16614160de1f"},
		{entries(5, 1<<31), "427c364da86e1222f90ea605f6b17c130ca906740955a88c070715fddfdee8b2"},
		{entries(0x12345678, 0x12345679, 0x1234567a), "9e250b09c5485c3f57e376653da682ed870fbdb0ad873a61fc8d4859da2b951a"},
		{entries(3, 1<<16, 7, last-1, last), "aeb7bcf0361b9a69241db7990c8c6dcd5ddfc9a9bb01c33b5ea32b433f8822de"},
		{many(64, 0, 1), "e1f3201de2dfefc5918107c22c72442bc67882824c9c74e4f95034b30c6e040c"},
		{many(64, 0, 1<<26), "a5a4266f175fb07e1a8ee09e61f5c695701ff63e69498e14c9fef948245818ba"},
		{many(64, last, -1), "cdcb9c4b37385682ea52b19d9bda24eb5c98282b3fe0b77166af1a38ed85fe1d"},
		{many(64, 0, spread), "46814965e7868ca6990d56aa2346f7cde890c174c845dfa53f157219668af687"},
	}
	for _, c := range cases {
		if d := root(t, c.es); octet.Hex(d[:]) != c.want {
			t.Errorf("%d entries: got %x, want %s", len(c.es), d, c.want)
		}
	}
}

func TestRootOfNone(t *testing.T) {
	for _, es := range [][]api.Entry{nil, {}, entries(5, 6)[:0]} {
		if got := root(t, es); got != nothing {
			t.Errorf("got %x", got)
		}
	}
}

func TestRoot(t *testing.T) {
	for _, es := range maps() {
		if got, want := root(t, es), wantRoot(es); got != want {
			t.Errorf("%v: got %x, want %x", es, got, want)
		}
	}
}

// One entry alone: its Leaf, and nothing beside it, 32 times.
func TestRootOfOne(t *testing.T) {
	for _, key := range []int{0, 1, 2, 5, 1 << 16, 1<<31 - 1, 1 << 31, 0xaaaaaaaa, last - 1, last} {
		for _, val := range []api.Digest{nothing, rising()} {
			e := api.Entry{Key: key, Val: val}
			want := leaf(t, e)
			for bit := range 32 {
				if key>>bit&1 == 0 {
					want = trie.Node(want, nothing)
				} else {
					want = trie.Node(nothing, want)
				}
			}
			if got := root(t, []api.Entry{e}); got != want {
				t.Errorf("key %d: got %x, want %x", key, got, want)
			}
		}
	}
}

// Two entries that part at one bit: below it each is alone, above it there is nothing beside both.
func TestRootOfTwo(t *testing.T) {
	for part := range 32 {
		es := entries(0, 1<<part)
		l, r := leaf(t, es[0]), leaf(t, es[1])
		for range part {
			l, r = trie.Node(l, nothing), trie.Node(r, nothing)
		}
		want := trie.Node(l, r)
		for range 31 - part {
			want = trie.Node(want, nothing)
		}
		if got := root(t, es); got != want {
			t.Errorf("they part at bit %d: got %x, want %x", part, got, want)
		}
	}
}

// Every number of entries that a map may have.
func TestRootOfEveryNumber(t *testing.T) {
	for n := range api.MaxMap + 1 {
		for _, apart := range []int{1, 1 << 26, spread} {
			es := many(n, 1<<20, apart)
			if got, want := root(t, es), wantRoot(es); got != want {
				t.Errorf("%d entries, %d apart: got %x, want %x", n, apart, got, want)
			}
		}
	}
}

// Each order of six entries.
func TestRootOfEveryOrder(t *testing.T) {
	es := entries(0, 1, 6, 1<<31, 1<<31+1, last)
	want := wantRoot(es)
	var turn func(n int)
	turn = func(n int) {
		if n == 1 {
			if got := root(t, es); got != want {
				t.Fatalf("%v: got %x, want %x", es, got, want)
			}
			return
		}
		for i := range n {
			es[i], es[n-1] = es[n-1], es[i]
			turn(n - 1)
			es[i], es[n-1] = es[n-1], es[i]
		}
	}
	turn(len(es))
}

// Some orders of 64 entries, and their Paths.
func TestRootOfOtherOrders(t *testing.T) {
	es := many(64, 0, spread)
	wantR, wantP := wantRoot(es), wantPath(es, es[9].Key)
	for step := 1; step < 64; step += 2 {
		for _, first := range []int{0, 1, 31, 63} {
			var other []api.Entry
			for i := range es {
				other = append(other, es[(first+i*step)%64])
			}
			if got := root(t, other); got != wantR {
				t.Errorf("each %d, from %d on: got %x, want %x", step, first, got, wantR)
			}
			if !slices.Equal(path(t, other, es[9].Key), wantP) {
				t.Errorf("each %d, from %d on: the path is another one", step, first)
			}
		}
	}
}

// Another Val, another Key, one entry less or one more: another Root.
func TestRootHangsOnEveryEntry(t *testing.T) {
	for _, es := range [][]api.Entry{entries(0), entries(5, 1<<31), entries(0, 1, 2, 3, 4, 5, 6), many(20, 3, spread)} {
		was := root(t, es)
		for i := range es {
			other := slices.Clone(es)
			for _, bit := range []int{0, 100, 255} {
				other[i].Val = flip(es[i].Val, bit)
				if root(t, other) == was {
					t.Errorf("%d entries: Val %d has no part in the Root", len(es), i)
				}
			}
			other[i].Val = es[i].Val
			for _, bit := range []int{3, 12, 30} {
				other[i].Key = es[i].Key ^ 1<<bit
				if root(t, other) == was {
					t.Errorf("%d entries: Key %d has no part in the Root", len(es), i)
				}
			}
			if root(t, slices.Delete(slices.Clone(es), i, i+1)) == was {
				t.Errorf("%d entries: the Root is the same without entry %d", len(es), i)
			}
		}
		if root(t, append(slices.Clone(es), api.Entry{Key: 12345})) == was {
			t.Errorf("%d entries: the Root is the same with one more", len(es))
		}
	}
}

// An entry whose Val is bytes 0 is one.
func TestRootOfEmptyVals(t *testing.T) {
	for _, key := range []int{0, 1, last} {
		es := []api.Entry{{Key: key}}
		if got := root(t, es); got != wantRoot(es) || got == nothing {
			t.Errorf("key %d: got %x, want %x", key, got, wantRoot(es))
		}
	}
}

// TI2: what is wrong with the entries; Path tells the same of them.

// 64 entries are enough, and 65 are too many, whatever else is wrong with them.
func TestTooManyEntries(t *testing.T) {
	if root(t, many(64, 5, 7)) == nothing {
		t.Errorf("64 entries are nothing")
	}
	for _, n := range []int{65, 66, 100, 127, 128, 129, 256, 257, 320, 1000, 1 << 16, 1<<16 + 1, 1<<16 + 64} {
		es := many(n, 5, 7)
		wantNoMap(t, es, api.ErrFull)
		for _, key := range outside() {
			wantNoPath(t, es, key, api.ErrFull)
		}
		for _, at := range []int{0, 1, 63, 64, n - 1} {
			none := slices.Clone(es)
			none[at].Key = -1
			wantNoMap(t, none, api.ErrFull)
			twice := slices.Clone(es)
			twice[at].Key = es[(at+1)%n].Key
			wantNoMap(t, twice, api.ErrFull)
		}
		wantNoMap(t, make([]api.Entry, n), api.ErrFull)
		wantNoMap(t, slices.Repeat([]api.Entry{{Key: 1 << 32}}, n), api.ErrFull)
	}
}

// A Key that is none, ahead of others, between them, or behind them.
func TestEntriesOfNoKey(t *testing.T) {
	for _, key := range outside() {
		wantNoMap(t, entries(key), api.ErrRange)
		wantNoMap(t, entries(key, 5), api.ErrRange)
		wantNoMap(t, entries(5, key), api.ErrRange)
		wantNoMap(t, entries(0, key, last), api.ErrRange)
		wantNoMap(t, entries(key&last, key), api.ErrRange)
	}
	for _, n := range []int{2, 3, 63, 64} {
		for at := range n {
			es := many(n, 9, spread)
			es[at].Key = -1 - at
			wantNoRoot(t, es, api.ErrRange)
			wantNoPath(t, es, 5, api.ErrRange)
			es[at].Key = 1<<32 + at
			wantNoRoot(t, es, api.ErrRange)
			wantNoPath(t, es, 5, api.ErrRange)
		}
	}
}

// Each two of entries with one Key, the Vals alike or not.
func TestEntriesThereTwice(t *testing.T) {
	for _, key := range []int{0, 1, 5, 1 << 31, last} {
		wantNoMap(t, entries(key, key), api.ErrTwice)
		wantNoMap(t, entries(key, 77, key), api.ErrTwice)
		wantNoMap(t, entries(77, key, key), api.ErrTwice)
		wantNoMap(t, []api.Entry{{Key: key}, {Key: key}}, api.ErrTwice)
		wantNoMap(t, []api.Entry{{Key: key, Val: full(1)}, {Key: key, Val: full(1)}}, api.ErrTwice)
	}
	for _, n := range []int{2, 3, 64} {
		for at := range n {
			for _, other := range []int{0, at / 2, at - 1, (at + 1) % n, n - 1} {
				if other < 0 || other == at {
					continue
				}
				es := many(n, 9, spread)
				es[at].Key = es[other].Key
				wantNoRoot(t, es, api.ErrTwice)
				wantNoPath(t, es, 5, api.ErrTwice)
			}
		}
	}
}

// Entries are looked at one by one: the first with which something is wrong tells the error.
func TestFirstWrongEntry(t *testing.T) {
	cases := []struct {
		keys []int
		want api.Errno
	}{
		{[]int{5, 5, -1}, api.ErrTwice},
		{[]int{5, -1, 5}, api.ErrRange},
		{[]int{-1, 5, 5}, api.ErrRange},
		{[]int{-1, -1}, api.ErrRange},
		{[]int{5, -1, -1}, api.ErrRange},
		{[]int{1 << 32, 1 << 32}, api.ErrRange},
		{[]int{0, 1 << 32}, api.ErrRange},
		{[]int{last, -1}, api.ErrRange},
		{[]int{0, 0, 1 << 32, 1 << 32}, api.ErrTwice},
		{[]int{0, 1, 2, 1, -1, 2}, api.ErrTwice},
		{[]int{0, 1, 2, -1, 1, 2}, api.ErrRange},
		{[]int{last, 1 << 31, last, math.MaxInt}, api.ErrTwice},
		{[]int{last, 1 << 31, math.MaxInt, last}, api.ErrRange},
	}
	for _, c := range cases {
		wantNoMap(t, entries(c.keys...), c.want)
	}
	for first := 1; first < 63; first++ {
		es := many(64, 9, spread)
		es[first].Key = es[0].Key
		es[first+1].Key = -1
		wantNoRoot(t, es, api.ErrTwice)
		wantNoPath(t, es, 5, api.ErrTwice)
		es[first], es[first+1] = es[first+1], es[first]
		wantNoRoot(t, es, api.ErrRange)
		wantNoPath(t, es, 5, api.ErrRange)
	}
}

// TI3: Path.

// Of Paths that another program has told: where they are not nothing, and the Sum of all their digests.
func TestToldPaths(t *testing.T) {
	few := entries(3, 1<<16, 7, last-1, last)
	cases := []struct {
		es   []api.Entry
		key  int
		some []int
		want string
	}{
		{nil, 0, nil, "5f70bf18a086007016e948b04aed3b82103a36bea41755b6cddfaf10ace3c6ef"},
		{entries(0), 0, nil, "5f70bf18a086007016e948b04aed3b82103a36bea41755b6cddfaf10ace3c6ef"},
		{entries(0), 1, []int{0}, "7a04a6102ab139f55bd8336fbfd82221af0219c6bb7e6d55696d680ea32b1933"},
		{entries(0), last, []int{31}, "7dc86f68b9e56867dd1bcaf975825a9b9d3f12ce528c37261e22891a282ceae7"},
		{entries(0, 1), 0, []int{0}, "ed3fd581607beaeb07ec5f3b06d67fec62f28fed7dac421cedf89ca0ad8f13b3"},
		{entries(0, 1), 1, []int{0}, "7a04a6102ab139f55bd8336fbfd82221af0219c6bb7e6d55696d680ea32b1933"},
		{entries(5, 1<<31), 5, []int{31}, "8a9d79b216ffa479a89868840434d89bdebd09e6ce2628d82ac4529275a86e2d"},
		{entries(5, 1<<31), 6, []int{1, 31}, "355be17fe2dfd21e85055c2fad2b3d444849e2dc16c8c931c97c3f562e348dd3"},
		{entries(5, 1<<31), 1 << 31, []int{31}, "d92ac31e8ab6bf85eb05cf9855aa076020231e1b44c154e04493d93d49d58d27"},
		{few, 7, []int{2, 16, 31}, "d3add932c11434334d47beabfde50ffc445ced4b6a81620b471fe4a44ca7a643"},
		{few, last - 2, []int{1, 31}, "771e85a9bd54e533931b701babc1638c6373c15fc8ebfc86a520e387748bb4b9"},
		{many(64, 0, 1), 17, []int{0, 1, 2, 3, 4, 5}, "2711c33d5367118b7cd14fac97e07bcaf4c335abf81065751d1ddbbdc61b4dc4"},
		{many(64, 0, 1), 64, []int{6}, "414c265a7761729324c20d6f92db8a2e097439d001b4639d3521b23bb4b32a5a"},
		{many(64, 0, 1<<26), 63 << 26, []int{26, 27, 28, 29, 30, 31}, "41f61837f15ce97c2131658df721722a99056081a4c7a2f049a94037a5807745"},
		{many(64, 0, spread), spread, []int{25, 26, 27, 28, 29, 30, 31}, "604edad8d9a4b123837ac1303675a1ced636c79df343b8e1fc77469f112d06af"},
		{many(64, 0, spread), 12345, []int{13, 25, 27, 28, 29, 30, 31}, "722d39a86ce4c9a441d322bbd6f86aaa8bbbb33f418753c2dcc6d4cf9b3dd60e"},
	}
	for _, c := range cases {
		got := path(t, c.es, c.key)
		var some []int
		for i, d := range got {
			if d != nothing {
				some = append(some, i)
			}
		}
		if len(got) != 32 || !slices.Equal(some, c.some) || sumOf(got) != c.want {
			t.Errorf("key %d in %d: got %x, with something at %v", c.key, len(c.es), got, some)
		}
	}
}

// Digests of one Path that another program has told: from the leaf up.
func TestToldDigestsOfAPath(t *testing.T) {
	got := path(t, entries(0, 1, 1<<31), 0)
	for i, d := range got {
		want := nothing
		switch i {
		case 0:
			want = leaf(t, api.Entry{Key: 1, Val: full(2)})
			if octet.Hex(d[:]) != "06c039f7e403f1c07d9c37e9ab3343ddfc1a8259b8d6a1371ddfb91050145053" {
				t.Errorf("beside the leaf: got %x", d)
			}
		case 31:
			want = leaf(t, api.Entry{Key: 1 << 31, Val: full(3)})
			for range 31 {
				want = trie.Node(want, nothing)
			}
			if octet.Hex(d[:]) != "fe4f7e38348d69d039c9f3f8708efda46d66a6350c3f50c869b9063c17e6162b" {
				t.Errorf("at the top: got %x", d)
			}
		}
		if d != want {
			t.Errorf("digest %d: got %x, want %x", i, d, want)
		}
	}
}

// Keys that are there and keys that are not.
func TestPath(t *testing.T) {
	for _, es := range maps() {
		for _, key := range asked(es) {
			got := path(t, es, key)
			if want := wantPath(es, key); !slices.Equal(got, want) {
				t.Errorf("key %d of %v: got %x, want %x", key, es, got, want)
			}
			if len(got) != api.Depth {
				t.Errorf("key %d of %v: %d digests", key, es, len(got))
			}
		}
	}
}

// Of no entries there is nothing beside any key.
func TestPathOfNone(t *testing.T) {
	for _, key := range []int{0, 1, 0x0f0f3355, 1 << 31, last} {
		for _, es := range [][]api.Entry{nil, {}, entries(key)} {
			if got := path(t, es, key); !slices.Equal(got, make([]api.Digest, 32)) {
				t.Errorf("key %d: got %x", key, got)
			}
		}
	}
}

// The key's own entry has no part in its Path, and each other one has.
func TestPathHangsOnTheOthers(t *testing.T) {
	es := append(many(12, 3, spread), entries(0, 1, last)...)
	for i, e := range es {
		want := path(t, es, e.Key)
		if !slices.Equal(path(t, slices.Delete(slices.Clone(es), i, i+1), e.Key), want) {
			t.Errorf("key %d: its own entry has a part in its Path", e.Key)
		}
		for other := range es {
			changed := slices.Clone(es)
			changed[other].Val = flip(changed[other].Val, 77)
			if same := slices.Equal(path(t, changed, e.Key), want); same != (other == i) {
				t.Errorf("entry %d changed: is the Path of key %d the same? %v", other, e.Key, same)
			}
		}
	}
}

func TestPathOfNoKey(t *testing.T) {
	for _, es := range [][]api.Entry{nil, {}, entries(0), entries(5, 1<<31), many(64, 0, spread)} {
		for _, key := range outside() {
			wantNoPath(t, es, key, api.ErrRange)
		}
	}
}

// What is wrong with the entries comes ahead of what is wrong with the key.
func TestPathTellsOfEntriesFirst(t *testing.T) {
	for _, key := range outside() {
		wantNoPath(t, many(65, 0, 1), key, api.ErrFull)
		wantNoPath(t, entries(5, 5), key, api.ErrTwice)
		wantNoPath(t, entries(5, 5, key), key, api.ErrTwice)
		wantNoPath(t, entries(5, key), key, api.ErrRange)
	}
}

// TI3: Fold.

// Digests that another program has told, of paths that no map made: of steps, and of nothing.
func TestToldFolds(t *testing.T) {
	cases := []struct {
		key  int
		leaf api.Digest
		path []api.Digest
		want string
	}{
		{0, nothing, steps(32), "bf637f6cfcf2eac88f00f25f527233171e7c2537e3828ef47ceeb859793a4fe8"},
		{0, full(255), steps(32), "a77a0d38b730d307767b0bf246bdd73596d9f3bce962e8f1cedc5a73d002872c"},
		{last, full(255), steps(32), "dcf4aee96bc7a52dffa60d78a3bc07caa132c69c3e16b5256a3afeaaeb823dad"},
		{1, rising(), steps(32), "7788b0df2fb835a34f06eb70548dcb2d55f86c06faffa8d63970527dba1cdcf5"},
		{1 << 31, rising(), steps(32), "420a9db3b6710831f4573501c956fca3418b05e470ae4b7a5eab58ac970947fc"},
		{0x0f0f3355, full(255), steps(32), "0cd4869cfa7d77c4128813e69d60c72175e5e8e0c00f1cd6e8814a9b922517ca"},
		{0xaaaaaaaa, nothing, steps(32), "9388d6282263fcd9e4918a858f6bc5c4549a21355391abe7980545c8392e3ec2"},
		{0, full(255), make([]api.Digest, 32), "8cc63b778c05e4055bce7243ffddee249fb01f9a4ee9432ac2b4d4760610c0b1"},
		{last, full(255), make([]api.Digest, 32), "3ac371f4247682eb92ea43b75db429ce24aa1e5a85fbe0de053b126d1adc8f07"},
		{0xaaaaaaaa, rising(), make([]api.Digest, 32), "b53f9f2b4d589d15069aa7e9cf44724d996bbf0e0f498b9783229ab0b08918c0"},
	}
	for _, c := range cases {
		if d := fold(t, c.key, c.leaf, c.path); octet.Hex(d[:]) != c.want {
			t.Errorf("key %d: got %x, want %s", c.key, d, c.want)
		}
	}
}

// What stands at a key, and its Path, tell the Root: its leaf, or nothing.
func TestFoldOfPathIsRoot(t *testing.T) {
	for _, es := range maps() {
		want := root(t, es)
		for _, key := range asked(es) {
			if got := fold(t, key, wantAt(es, key), path(t, es, key)); got != want {
				t.Errorf("key %d of %v: got %x, want %x", key, es, got, want)
			}
		}
	}
}

// Another leaf, or nothing, with the same Path: the Root of the map in which this is what stands there.
func TestFoldOfAnotherLeafIsAnotherMap(t *testing.T) {
	for _, es := range [][]api.Entry{nil, entries(0), entries(0, 1), entries(5, 1<<31), many(20, 3, spread), many(63, 0, 1)} {
		was := root(t, es)
		for _, key := range asked(es) {
			p := path(t, es, key)
			without := slices.DeleteFunc(slices.Clone(es), func(e api.Entry) bool { return e.Key == key })
			if got, want := fold(t, key, nothing, p), root(t, without); got != want {
				t.Errorf("key %d, nothing: got %x, want %x", key, got, want)
			}
			e := api.Entry{Key: key, Val: full(200)}
			if got, want := fold(t, key, leaf(t, e), p), root(t, append(without, e)); got != want || got == was {
				t.Errorf("key %d, another leaf: got %x, want %x, and not %x", key, got, want, was)
			}
		}
	}
}

// A leaf with any bit changed, or nothing where there is a leaf, or a leaf where there is nothing.
func TestFoldOfAChangedLeaf(t *testing.T) {
	es := many(20, 3, spread)
	was := root(t, es)
	for i, key := range asked(es) {
		at, p := wantAt(es, key), path(t, es, key)
		for _, other := range []api.Digest{flip(at, i*37%256), flip(at, 0), flip(at, 255)} {
			if got, want := fold(t, key, other, p), wantFold(key, other, p); got != want || got == was {
				t.Errorf("key %d: got %x, want %x, and not %x", key, got, want, was)
			}
		}
		if at != nothing && fold(t, key, nothing, p) == was {
			t.Errorf("key %d: it is shown that it is not there", key)
		}
	}
	for bit := range 256 {
		if fold(t, 6, flip(nothing, bit), path(t, es, 6)) == was {
			t.Errorf("bit %d: something is shown where nothing is", bit)
		}
	}
}

// Each digest of a Path counts, by each bit.
func TestFoldOfAChangedPath(t *testing.T) {
	for _, es := range [][]api.Entry{entries(0), entries(5, 1<<31), many(20, 3, spread)} {
		was := root(t, es)
		for i, key := range asked(es) {
			at, p := wantAt(es, key), path(t, es, key)
			for place := range p {
				changed := slices.Clone(p)
				changed[place] = flip(changed[place], (37*place+i)%256)
				got, want := fold(t, key, at, changed), wantFold(key, at, changed)
				if got != want || got == was {
					t.Errorf("key %d, digest %d: got %x, want %x, and not %x", key, place, got, want, was)
				}
			}
		}
	}
	es := entries(5, 1<<31)
	was, p := root(t, es), path(t, es, 5)
	for bit := range 256 {
		changed := slices.Clone(p)
		changed[bit%32] = flip(changed[bit%32], bit)
		if fold(t, 5, wantAt(es, 5), changed) == was {
			t.Errorf("bit %d of digest %d has no part in it", bit, bit%32)
		}
	}
}

// Digests of a path in another order.
func TestFoldOfOtherOrders(t *testing.T) {
	es := many(64, 0, spread)
	was := root(t, es)
	for _, e := range es[:8] {
		p := path(t, es, e.Key)
		for at := 1; at < len(p); at++ {
			turned := slices.Clone(p)
			turned[at-1], turned[at] = turned[at], turned[at-1]
			got, want := fold(t, e.Key, wantLeaf(e), turned), wantFold(e.Key, wantLeaf(e), turned)
			if got != want || (got == was) != (p[at-1] == p[at]) {
				t.Errorf("key %d, digest %d turned: got %x, want %x", e.Key, at, got, want)
			}
		}
		slices.Reverse(p)
		if fold(t, e.Key, wantLeaf(e), p) == was {
			t.Errorf("key %d: from the top down it is the same", e.Key)
		}
	}
}

// A leaf and a path at another key, of each bit.
func TestFoldAtAnotherKey(t *testing.T) {
	es := many(20, 3, spread)
	was := root(t, es)
	for _, e := range es {
		p := path(t, es, e.Key)
		for bit := range 32 {
			other := e.Key ^ 1<<bit
			got, want := fold(t, other, wantLeaf(e), p), wantFold(other, wantLeaf(e), p)
			if got != want || got == was {
				t.Errorf("key %d at %d: got %x, want %x, and not %x", e.Key, other, got, want, was)
			}
		}
	}
}

// Keys of all kinds, with a path that no map made.
func TestFoldOfAnyPath(t *testing.T) {
	for i := range 300 {
		key := (i*spread + 5) & last
		for _, l := range []api.Digest{nothing, full(byte(i))} {
			p := steps(32)
			for at := range p {
				if (i+at)%3 == 0 {
					p[at] = nothing
				}
			}
			if got, want := fold(t, key, l, p), wantFold(key, l, p); got != want {
				t.Errorf("key %d: got %x, want %x", key, got, want)
			}
		}
	}
}

// Nothing, and nothing beside it all the way up, is nothing; only what stands above the last nothing counts.
func TestFoldOfNothing(t *testing.T) {
	for _, key := range []int{0, 1, 0xaaaaaaaa, 1 << 31, last} {
		p := make([]api.Digest, 32)
		if got := fold(t, key, nothing, p); got != nothing {
			t.Errorf("key %d: got %x", key, got)
		}
		for at := 31; at >= 0; at-- {
			p[at] = full(byte(at + 1))
			if got, want := fold(t, key, nothing, p), wantFold(key, nothing, p); got != want || got == nothing {
				t.Errorf("key %d, something from %d on: got %x, want %x", key, at, got, want)
			}
		}
	}
}

// TI3: what is wrong with what is handed in to Fold.

// A key that is none, however long the path.
func TestFoldOfNoKey(t *testing.T) {
	for _, key := range outside() {
		for _, n := range []int{0, 1, 31, 32, 33, 64, 256, 1000} {
			for _, l := range []api.Digest{nothing, full(1)} {
				wantNoFold(t, key, l, steps(n), api.ErrRange)
			}
		}
		wantNoFold(t, key, full(1), nil, api.ErrRange)
	}
}

// Every number of digests but 32.
func TestFoldOfOtherLengths(t *testing.T) {
	for _, key := range []int{0, 1, 5, 1 << 31, last} {
		for _, l := range []api.Digest{nothing, full(1)} {
			for n := range 300 {
				if n != 32 {
					wantNoFold(t, key, l, steps(n), api.ErrLength)
				}
			}
			for _, n := range []int{512, 1000, 1024, 1 << 16, 1<<16 + 32, 1<<17 + 32} {
				wantNoFold(t, key, l, make([]api.Digest, n), api.ErrLength)
			}
			wantNoFold(t, key, l, nil, api.ErrLength)
			wantNoFold(t, key, l, []api.Digest{}, api.ErrLength)
		}
	}
}

// A Path with one digest more, ahead of it or behind it, or with one less.
func TestFoldOfLongerAndShorterPaths(t *testing.T) {
	for _, es := range [][]api.Entry{nil, entries(0), many(20, 3, spread)} {
		for _, key := range asked(es) {
			at, p := wantAt(es, key), path(t, es, key)
			wantNoFold(t, key, at, append(slices.Clone(p), nothing), api.ErrLength)
			wantNoFold(t, key, at, append([]api.Digest{nothing}, p...), api.ErrLength)
			wantNoFold(t, key, at, p[1:], api.ErrLength)
			wantNoFold(t, key, at, p[:31], api.ErrLength)
		}
	}
}

// P2, P3, P4: nothing that is handed in is written into or kept, nor what lies behind it; what comes out is fresh.

// Behind the entries lie more of them, with each of which something would be wrong.
func TestEntriesStay(t *testing.T) {
	before := append(many(64, 3, spread), entries(3, -1, 1<<32)...)
	room := slices.Clone(before)
	for _, n := range []int{0, 1, 2, 20, 63, 64} {
		if got, want := root(t, room[:n]), wantRoot(before[:n]); got != want {
			t.Errorf("%d entries: what lies behind them counts", n)
		}
		for _, key := range []int{3, 4, last} {
			if !slices.Equal(path(t, room[:n], key), wantPath(before[:n], key)) {
				t.Errorf("%d entries, key %d: what lies behind them counts", n, key)
			}
		}
		wantNoPath(t, room[:n], -1, api.ErrRange)
		wantNoMap(t, room[:65], api.ErrFull)
		wantNoMap(t, room[64:66], api.ErrRange)
		if !slices.Equal(room, before) {
			t.Fatalf("%d entries: they were written into", n)
		}
	}
}

func TestWrongEntriesStay(t *testing.T) {
	for _, keys := range [][]int{{5, 5, 6}, {6, 5, 5}, {9, -1, 8}, {1 << 32, 3}} {
		es := entries(keys...)
		if _, err := trie.Root(es); err == nil {
			t.Errorf("%v: no error", keys)
		}
		if _, err := trie.Path(es, 5); err == nil {
			t.Errorf("%v: no error", keys)
		}
		if !slices.Equal(es, entries(keys...)) {
			t.Errorf("%v: they were written into", keys)
		}
	}
}

func TestPathsStay(t *testing.T) {
	before := steps(40)
	room := slices.Clone(before)
	for _, key := range []int{0, 5, 1 << 31, last} {
		if got, want := fold(t, key, full(9), room[:32]), wantFold(key, full(9), before[:32]); got != want {
			t.Errorf("key %d: what lies behind the path counts", key)
		}
		wantNoFold(t, key, full(9), room[:31], api.ErrLength)
		wantNoFold(t, key, full(9), room[:33], api.ErrLength)
		wantNoFold(t, -1, full(9), room[:32], api.ErrRange)
		if !slices.Equal(room, before) {
			t.Fatalf("key %d: the path was written into", key)
		}
	}
}

// What is done with a Path, in all of its memory, or with the entries, is not seen in another one.
func TestPathsAreFresh(t *testing.T) {
	for _, es := range [][]api.Entry{nil, entries(0), entries(5, 1<<31), many(64, 3, spread)} {
		for _, key := range []int{0, 3, 5, last} {
			want, handed := wantPath(es, key), slices.Clone(es)
			first, second := path(t, handed, key), path(t, handed, key)
			clear(first[:cap(first)])
			if !slices.Equal(second, want) {
				t.Errorf("key %d of %d: two paths share memory", key, len(es))
			}
			if !slices.Equal(handed, es) {
				t.Fatalf("key %d of %d: its path and the entries share memory", key, len(es))
			}
			clear(handed)
			if !slices.Equal(second, want) || !slices.Equal(path(t, es, key), want) {
				t.Errorf("key %d of %d: its path hangs on what was done with the entries", key, len(es))
			}
		}
	}
}

// A call that failed leaves nothing behind: the next one tells what it told before.
func TestAfterErrors(t *testing.T) {
	es := entries(5, 1<<31)
	wantR, wantP := wantRoot(es), wantPath(es, 5)
	for range 3 {
		wantNoMap(t, entries(5, 1<<31, 5), api.ErrTwice)
		wantNoMap(t, entries(5, 1<<31, -1), api.ErrRange)
		wantNoMap(t, many(65, 5, 1), api.ErrFull)
		wantNoFold(t, 5, nothing, steps(31), api.ErrLength)
		if got := root(t, es); got != wantR {
			t.Errorf("got %x, want %x", got, wantR)
		}
		if got := fold(t, 5, wantAt(es, 5), path(t, es, 5)); got != wantR || !slices.Equal(path(t, es, 5), wantP) {
			t.Errorf("got %x, want %x", got, wantR)
		}
	}
}
