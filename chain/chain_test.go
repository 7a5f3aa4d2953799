package chain_test

import (
	"crypto/sha256"
	"math"
	"reflect"
	"testing"

	"oathbook/api"
	"oathbook/chain"
	"oathbook/octet"
	"oathbook/plain"
)

// seeds: digests to begin with, the smallest and the greatest among them.
func seeds() []api.Digest {
	var rising, greatest api.Digest
	for i := range rising {
		rising[i], greatest[i] = byte(i), 255
	}
	return []api.Digest{{}, {1}, {31: 1}, rising, greatest}
}

// wantStep: what Go's own library tells of a byte 8 and the digest.
func wantStep(d api.Digest) api.Digest { return sha256.Sum256(append([]byte{8}, d[:]...)) }

// wantRow: so many digests, the seed first.
func wantRow(seed api.Digest, n int) []api.Digest {
	row := []api.Digest{seed}
	for len(row) < n {
		row = append(row, wantStep(row[len(row)-1]))
	}
	return row
}

// walk: what Walk tells, where it must tell something.
func walk(t *testing.T, d api.Digest, n int) api.Digest {
	t.Helper()
	got, err := chain.Walk(d, n)
	if err != nil {
		t.Fatalf("Walk of %d: %v", n, err)
	}
	return got
}

// newChain: what New tells, where it must tell something.
func newChain(t *testing.T, seed api.Digest, k int) *chain.Chain {
	t.Helper()
	c, err := chain.New(seed, k)
	if err != nil || c == nil {
		t.Fatalf("New of %d: got %v and %v", k, c, err)
	}
	return c
}

// next: what Next tells, where it must tell something.
func next(t *testing.T, c *chain.Chain) api.Digest {
	t.Helper()
	d, err := c.Next()
	if err != nil {
		t.Fatalf("Next: %v", err)
	}
	return d
}

// wantSpent: Next tells ErrSpent, however often it is asked, and nothing is kept.
func wantSpent(t *testing.T, c *chain.Chain) {
	t.Helper()
	for range 5 {
		if d, err := c.Next(); plain.Told(err) != api.ErrSpent || d != (api.Digest{}) {
			t.Errorf("Next, when all were told: got %x and %v", d, err)
		}
		if n := c.Kept(); n != 0 {
			t.Errorf("Kept, when all were told: got %d", n)
		}
	}
}

// held: how many digests that are not all 0 stand in what v reaches, behind the lengths of its lists too.
func held(v reflect.Value) int {
	if v.Type() == reflect.TypeFor[api.Digest]() {
		if v.IsZero() {
			return 0
		}
		return 1
	}
	n := 0
	switch v.Kind() {
	case reflect.Pointer, reflect.Interface:
		if !v.IsNil() {
			n = held(v.Elem())
		}
	case reflect.Struct:
		for i := range v.NumField() {
			n += held(v.Field(i))
		}
	case reflect.Slice:
		all := v.Slice(0, v.Cap())
		for i := range all.Len() {
			n += held(all.Index(i))
		}
	case reflect.Array:
		for i := range v.Len() {
			n += held(v.Index(i))
		}
	case reflect.Map:
		for at := v.MapRange(); at.Next(); {
			n += held(at.Key()) + held(at.Value())
		}
	}
	return n
}

// CN1: Step and Walk.

// Digests that another program has told of the chapter's words: no library is asked here.
func TestToldSteps(t *testing.T) {
	cases := []struct {
		seed api.Digest
		n    int
		want string
	}{
		{api.Digest{}, 1, "9cd222876c0b2b6032fa3f75641474ff2996772e37afc3b9dfd1d18b6ad0642e"},
		{api.Digest{}, 2, "ef701b11c02d32df70f55d53b3e8459d2318fc04b3fb03be229a9754150cb7e2"},
		{api.Digest{}, 1000, "9c2f0e524de7e7f5876195544a854314de9bd784d7e44cfcb75f6b3f4c605194"},
		{api.Digest{1}, 1, "ee8ea22885c1e9dd450bd38646f2b238b81ed2f7f704a81cdf405f344989e50d"},
		{api.Digest{1}, 15, "285d79782db77a022f1aeed55c571e8c42cb8a8d7f61634ff34fcd23fa497ef3"},
		{api.Digest{1}, 1000, "84189da0beb9db65ea98d1c3aa4192c0c8e8ef76a56c8c55bc4ea997f9ad00d5"},
	}
	for _, c := range cases {
		if d := walk(t, c.seed, c.n); octet.Hex(d[:]) != c.want {
			t.Errorf("%x, %d steps: got %x, want %s", c.seed, c.n, d, c.want)
		}
		d := c.seed
		for range c.n {
			d = chain.Step(d)
		}
		if octet.Hex(d[:]) != c.want {
			t.Errorf("%x, %d times Step: got %x, want %s", c.seed, c.n, d, c.want)
		}
	}
}

func TestStep(t *testing.T) {
	for _, d := range seeds() {
		if got, want := chain.Step(d), wantStep(d); got != want {
			t.Errorf("Step of %x: got %x, want %x", d, got, want)
		}
	}
}

// Each bit of a digest counts.
func TestStepOfEveryBit(t *testing.T) {
	for bit := range 256 {
		var d api.Digest
		d[bit/8] = 1 << (bit % 8)
		if got, want := chain.Step(d), wantStep(d); got != want {
			t.Errorf("bit %d: got %x, want %x", bit, got, want)
		}
	}
}

func TestWalkOfNoneAndOfOne(t *testing.T) {
	for _, d := range seeds() {
		if got := walk(t, d, 0); got != d {
			t.Errorf("Walk of 0: got %x, want %x", got, d)
		}
		if got, want := walk(t, d, 1), chain.Step(d); got != want {
			t.Errorf("Walk of 1: got %x, want %x", got, want)
		}
	}
}

// Every count from 0 to MaxSteps.
func TestWalkOfEveryCount(t *testing.T) {
	seed := api.Digest{1}
	for n, want := range wantRow(seed, api.MaxSteps+1) {
		if got := walk(t, seed, n); got != want {
			t.Fatalf("Walk of %d: got %x, want %x", n, got, want)
		}
	}
}

// So many steps and then so many are all of them at once.
func TestWalkInTwoParts(t *testing.T) {
	for _, d := range seeds() {
		for _, all := range []int{0, 1, 2, 3, 15, 64, 999, api.MaxSteps} {
			want := walk(t, d, all)
			for _, first := range []int{0, 1, 2, 7, all / 2, all - 1, all} {
				if first < 0 || first > all {
					continue
				}
				if got := walk(t, walk(t, d, first), all-first); got != want {
					t.Errorf("%d steps and then %d: got %x, want %x", first, all-first, got, want)
				}
			}
		}
	}
}

func TestWalkOutOfRange(t *testing.T) {
	for _, d := range seeds() {
		for _, n := range []int{-1, -2, -api.MaxSteps, math.MinInt, api.MaxSteps + 1, 1024, 1 << 32, 1<<32 + 1, math.MaxInt} {
			if got, err := chain.Walk(d, n); plain.Told(err) != api.ErrRange || got != (api.Digest{}) {
				t.Errorf("Walk of %d: got %x and %v", n, got, err)
			}
		}
	}
}

// CN2: a Chain.

// Digests that another program has told: a chain of each level begins to tell at its last one.
func TestToldEnds(t *testing.T) {
	cases := []struct {
		k    int
		want string
	}{
		{0, "0100000000000000000000000000000000000000000000000000000000000000"},
		{1, "ee8ea22885c1e9dd450bd38646f2b238b81ed2f7f704a81cdf405f344989e50d"},
		{4, "285d79782db77a022f1aeed55c571e8c42cb8a8d7f61634ff34fcd23fa497ef3"},
		{10, "bbc7066511dbf7c1e7aa7ddbd7d6d288ae6637ae6a04883e7ba5014dc386305c"},
	}
	for _, c := range cases {
		if d := next(t, newChain(t, api.Digest{1}, c.k)); octet.Hex(d[:]) != c.want {
			t.Errorf("level %d: got %x, want %s", c.k, d, c.want)
		}
	}
}

// Every level, from the last digest back to the seed, and nothing behind it.
func TestChainOfEveryLevel(t *testing.T) {
	for _, seed := range seeds() {
		for k := range api.MaxLevel + 1 {
			row := wantRow(seed, 1<<k)
			c := newChain(t, seed, k)
			for at := len(row) - 1; at >= 0; at-- {
				if got := next(t, c); got != row[at] {
					t.Fatalf("level %d, place %d: got %x, want %x", k, at, got, row[at])
				}
			}
			wantSpent(t, c)
		}
	}
}

// By Step alone: each one that is told is a Step ahead of the one told before it, and the last one is the seed.
func TestEachIsAStepAhead(t *testing.T) {
	seed := api.Digest{1}
	for k := range api.MaxLevel + 1 {
		c := newChain(t, seed, k)
		before := next(t, c)
		for told := 1; told < 1<<k; told++ {
			d := next(t, c)
			if chain.Step(d) != before {
				t.Fatalf("level %d, %d told: %x is no step ahead of %x", k, told, d, before)
			}
			before = d
		}
		if before != seed {
			t.Errorf("level %d: the last one told is %x, want the seed", k, before)
		}
	}
}

// Kept is at most k + 1 behind New and behind every Next, at least 1 while one is left to tell, and 0 at the end.
func TestKeptOfEveryLevel(t *testing.T) {
	for _, seed := range seeds() {
		for k := range api.MaxLevel + 1 {
			c := newChain(t, seed, k)
			for left := 1 << k; left > 0; left-- {
				if n := c.Kept(); n < 1 || n > k+1 {
					t.Fatalf("level %d, %d left: %d are kept", k, left, n)
				}
				next(t, c)
			}
			wantSpent(t, c)
		}
	}
}

// Kept tells the truth: so many digests stand in the chain's memory, and none that was told.
func TestKeptIsWhatIsHeld(t *testing.T) {
	for k := range api.MaxLevel + 1 {
		c := newChain(t, api.Digest{1}, k)
		for left := 1 << k; left >= 0; left-- {
			if n, want := held(reflect.ValueOf(c)), c.Kept(); n != want {
				t.Fatalf("level %d, %d left: %d are held, and Kept tells %d", k, left, n, want)
			}
			if left > 0 {
				next(t, c)
			}
		}
	}
}

// Small chains: one digest alone, and a seed that is kept beside its Step.
func TestKeptOfSmallChains(t *testing.T) {
	for k, want := range [][]int{{1, 0}, {2, 1, 0}} {
		c := newChain(t, api.Digest{1}, k)
		for told, n := range want {
			if told > 0 {
				next(t, c)
			}
			if got := c.Kept(); got != n {
				t.Errorf("level %d, %d told: %d are kept, want %d", k, told, got, n)
			}
		}
	}
}

func TestNewOutOfRange(t *testing.T) {
	for _, seed := range seeds() {
		for _, k := range []int{-1, -2, -64, math.MinInt, api.MaxLevel + 1, 12, 62, 63, 64, 65, 1 << 32, math.MaxInt} {
			if c, err := chain.New(seed, k); plain.Told(err) != api.ErrRange || c != nil {
				t.Errorf("New of %d: got %v and %v", k, c, err)
			}
		}
	}
}

// P2: answers hang on the calls before on the same thing alone, and belong to the caller.

// Kept, asked as often as one likes, changes nothing.
func TestKeptChangesNothing(t *testing.T) {
	row := wantRow(api.Digest{7}, 16)
	c := newChain(t, row[0], 4)
	for at := len(row) - 1; at >= 0; at-- {
		if first, second := c.Kept(), c.Kept(); first != second {
			t.Errorf("place %d: Kept tells %d, then %d", at, first, second)
		}
		if got := next(t, c); got != row[at] {
			t.Errorf("place %d: got %x, want %x", at, got, row[at])
		}
	}
}

func TestTwoChainsAreApart(t *testing.T) {
	one, two := wantRow(api.Digest{1}, 8), wantRow(api.Digest{2}, 32)
	a, b := newChain(t, one[0], 3), newChain(t, two[0], 5)
	again := newChain(t, one[0], 3)
	for i := range one {
		if got, want := next(t, a), one[len(one)-1-i]; got != want {
			t.Errorf("the first, %d told: got %x, want %x", i, got, want)
		}
		if got, want := next(t, b), two[len(two)-1-i]; got != want {
			t.Errorf("the second, %d told: got %x, want %x", i, got, want)
		}
	}
	wantSpent(t, a)
	if got, want := next(t, again), one[len(one)-1]; got != want {
		t.Errorf("another of the first one's seed: got %x, want %x", got, want)
	}
}

func TestAnswersAreTheCallers(t *testing.T) {
	row := wantRow(api.Digest{1}, 8)
	seed := row[0]
	c := newChain(t, seed, 3)
	clear(seed[:])
	for at := len(row) - 1; at >= 0; at-- {
		d := next(t, c)
		if d != row[at] {
			t.Errorf("place %d: got %x, want %x", at, d, row[at])
		}
		clear(d[:])
	}
}
