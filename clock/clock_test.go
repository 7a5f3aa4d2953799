package clock_test

import (
	"crypto/sha256"
	"encoding/hex"
	"fmt"
	"math"
	"slices"
	"strings"
	"sync"
	"testing"

	"oathbook/api"
	"oathbook/clock"
	"oathbook/plain"
)

// most: so many people there may be.
const most = 16

// greatest: no number is above it.
const greatest = math.MaxInt

// some: n numbers without an order, others for each seed: some are 0, most are small, a few great.
func some(seed byte, n int) []int {
	c := []int{}
	for i := range n {
		sum := sha256.Sum256([]byte{seed, byte(i)})
		number := int(sum[1])
		switch sum[0] % 8 {
		case 0, 1, 2:
			number = 0
		case 3, 4:
			number %= 3
		case 5:
			number <<= 55
		}
		c = append(c, number)
	}
	return c
}

// zeros: so many of them.
func zeros(n int) []int { return make([]int, n) }

// joined: lists, one behind the other, in memory of their own.
func joined(cs ...[]int) []int { return slices.Concat(cs...) }

// with: a list with another number at this place.
func with(c []int, at, number int) []int {
	c = slices.Clone(c)
	c[at] = number
	return c
}

// withRoom: the same numbers, with room behind them in which stands what is nobody's.
func withRoom(c []int) []int {
	room := append(slices.Clone(c), -7, 1<<40, greatest, 3, math.MinInt)
	return room[:len(c)]
}

// below: numbers below 0.
func below() []int {
	return []int{-1, -2, -16, -255, -256, -1 << 31, -1 << 32, -1<<32 + 1, -1 << 62, -greatest, math.MinInt}
}

// nobody: numbers at which no person stands.
func nobody() []int {
	return append(below(), 16, 17, 18, 31, 32, 255, 256, 257, 1<<16, 1<<31, 1<<32, 1<<32+1, 1<<32+15, 1<<62, greatest-1, greatest)
}

// lists: all lists of at most so many of these numbers.
func lists(longest int, of ...int) [][]int {
	all := [][]int{nil}
	for last := all; longest > 0; longest-- {
		var next [][]int
		for _, c := range last {
			for _, number := range of {
				next = append(next, append(slices.Clone(c), number))
			}
		}
		all = append(all, next...)
		last = next
	}
	return all
}

// at: a person's number in a clock: 0 where it has none.
func at(c []int, who int) int {
	if who < len(c) {
		return c[who]
	}
	return 0
}

// cut: the same without zeros at its end: each number above 0, and all those ahead of it.
func cut(c []int) []int {
	var kept []int
	for i, number := range c {
		if number > 0 {
			kept = c[:i+1]
		}
	}
	return slices.Clone(kept)
}

// wantWrong: what is wrong with a clock, by the chapter's words.
func wantWrong(c []int) api.Errno {
	if len(c) > most {
		return api.ErrFull
	}
	for _, number := range c {
		if number < 0 {
			return api.ErrRange
		}
	}
	return api.OK
}

// wantWrongTick: what is wrong with a clock that is to have one more for somebody.
func wantWrongTick(c []int, who int) api.Errno {
	if wrong := wantWrong(c); wrong != api.OK {
		return wrong
	}
	if who < 0 || who > most-1 || at(c, who) == greatest {
		return api.ErrRange
	}
	return api.OK
}

// wantWrongOfBoth: what is wrong with the first of two clocks, or else with the other one.
func wantWrongOfBoth(a, b []int) api.Errno {
	if wrong := wantWrong(a); wrong != api.OK {
		return wrong
	}
	return wantWrong(b)
}

// wantTick: a clock with one more for somebody.
func wantTick(c []int, who int) []int {
	var next []int
	for i := range most {
		next = append(next, at(c, i))
	}
	next[who]++
	return cut(next)
}

// wantJoin: the greater number of each person.
func wantJoin(a, b []int) []int {
	var both []int
	for i := range most {
		number := at(a, i)
		if at(b, i) > number {
			number = at(b, i)
		}
		both = append(both, number)
	}
	return cut(both)
}

// wantBelow: whether nobody's number of a is above that of b.
func wantBelow(a, b []int) bool {
	for i := range most {
		if at(a, i) > at(b, i) {
			return false
		}
	}
	return true
}

// tick: Tick where nothing is wrong.
func tick(t *testing.T, c []int, who int) []int {
	t.Helper()
	next, err := clock.Tick(c, who)
	if err != nil {
		t.Fatalf("Tick of %v for %d: %v", c, who, err)
	}
	return next
}

// join: Join where nothing is wrong.
func join(t *testing.T, a, b []int) []int {
	t.Helper()
	both, err := clock.Join(a, b)
	if err != nil {
		t.Fatalf("Join of %v and %v: %v", a, b, err)
	}
	return both
}

// isBelow: Below where nothing is wrong.
func isBelow(t *testing.T, a, b []int) bool {
	t.Helper()
	is, err := clock.Below(a, b)
	if err != nil {
		t.Fatalf("Below of %v and %v: %v", a, b, err)
	}
	return is
}

// checks: asks whether Check tells this, and once more the same.
func checks(t *testing.T, c []int, want api.Errno) {
	t.Helper()
	for range 2 {
		if err := clock.Check(c); plain.Told(err) != want {
			t.Errorf("Check of %v: got %v, want %v", c, err, want)
		}
	}
}

// ticks: asks whether Tick tells this list.
func ticks(t *testing.T, c []int, who int, want []int) {
	t.Helper()
	if next := tick(t, c, who); !slices.Equal(next, want) {
		t.Errorf("Tick of %v for %d: got %v, want %v", c, who, next, want)
	}
}

// joins: asks whether Join tells this list.
func joins(t *testing.T, a, b, want []int) {
	t.Helper()
	if both := join(t, a, b); !slices.Equal(both, want) {
		t.Errorf("Join of %v and %v: got %v, want %v", a, b, both, want)
	}
}

// belows: asks whether Below tells this.
func belows(t *testing.T, a, b []int, want bool) {
	t.Helper()
	if is := isBelow(t, a, b); is != want {
		t.Errorf("Below of %v and %v: got %v, want %v", a, b, is, want)
	}
}

// wantNoTick: asks whether Tick tells this error and nothing beside it.
func wantNoTick(t *testing.T, c []int, who int, want api.Errno) {
	t.Helper()
	next, err := clock.Tick(c, who)
	if len(next) != 0 || plain.Told(err) != want {
		t.Errorf("Tick of %v for %d: got %v and %v, want %v", c, who, next, err, want)
	}
}

// wantNoJoin: asks whether Join tells this error and nothing beside it.
func wantNoJoin(t *testing.T, a, b []int, want api.Errno) {
	t.Helper()
	both, err := clock.Join(a, b)
	if len(both) != 0 || plain.Told(err) != want {
		t.Errorf("Join of %v and %v: got %v and %v, want %v", a, b, both, err, want)
	}
}

// wantNoBelow: asks whether Below tells this error and nothing beside it.
func wantNoBelow(t *testing.T, a, b []int, want api.Errno) {
	t.Helper()
	is, err := clock.Below(a, b)
	if is || plain.Told(err) != want {
		t.Errorf("Below of %v and %v: got %v and %v, want %v", a, b, is, err, want)
	}
}

// wantNeither: asks whether Join and Below tell this error and nothing beside it.
func wantNeither(t *testing.T, a, b []int, want api.Errno) {
	t.Helper()
	wantNoJoin(t, a, b, want)
	wantNoBelow(t, a, b, want)
}

// CK1: Check.

func TestCheck(t *testing.T) {
	checks(t, nil, api.OK)
	checks(t, []int{}, api.OK)
	checks(t, []int{0}, api.OK)
	checks(t, []int{1}, api.OK)
	checks(t, []int{greatest}, api.OK)
	checks(t, []int{1, 0, 1}, api.OK)
	checks(t, []int{-1}, api.ErrRange)
	checks(t, []int{math.MinInt}, api.ErrRange)
}

func TestCheckOfEachLength(t *testing.T) {
	for n := range 70 {
		want := api.OK
		if n > most {
			want = api.ErrFull
		}
		checks(t, zeros(n), want)
		checks(t, some(1, n), want)
		checks(t, slices.Repeat([]int{1}, n), want)
		checks(t, slices.Repeat([]int{greatest}, n), want)
	}
	for _, n := range []int{255, 256, 257, 272, 65536, 65552, 1 << 20} {
		checks(t, zeros(n), api.ErrFull)
	}
}

// Zeros at the end count: a list of 17 is too long, whatever stands in it.
func TestCheckOfMoreWithZerosAtTheEnd(t *testing.T) {
	for n := range 18 {
		checks(t, joined(slices.Repeat([]int{3}, n), zeros(17-n)), api.ErrFull)
	}
}

func TestCheckOfANumberBelow0(t *testing.T) {
	for n := 1; n <= 20; n++ {
		want := api.ErrRange
		if n > most {
			want = api.ErrFull
		}
		for i := range n {
			for _, number := range below() {
				checks(t, with(zeros(n), i, number), want)
				checks(t, with(some(2, n), i, number), want)
				checks(t, with(slices.Repeat([]int{greatest}, n), i, number), want)
			}
		}
		checks(t, slices.Repeat([]int{-1}, n), want)
	}
}

// Numbers below 0 are not made good by greater ones.
func TestCheckOfSeveralBelow0(t *testing.T) {
	for _, c := range lists(5, -1, 0, 1) {
		checks(t, c, wantWrong(c))
	}
	checks(t, []int{math.MinInt, math.MinInt}, api.ErrRange)
	checks(t, []int{greatest, math.MinInt, 1}, api.ErrRange)
}

// What stands behind a list in its memory is not looked at.
func TestCheckDoesNotReadBehindItsList(t *testing.T) {
	for n := range 17 {
		checks(t, withRoom(some(3, n)), api.OK)
	}
	long := zeros(40)
	checks(t, long[:most], api.OK)
	checks(t, long[:most+1], api.ErrFull)
}

func TestCheckLeavesWhatItIsGiven(t *testing.T) {
	for n := range 20 {
		for _, c := range [][]int{some(4, n), zeros(n), slices.Repeat([]int{-1}, n)} {
			room := withRoom(c)
			clock.Check(room)
			if want := withRoom(c); !slices.Equal(room[:n+5], want[:n+5]) {
				t.Errorf("Check of %v has changed it to %v", want[:n+5], room[:n+5])
			}
		}
	}
}

// CK2: Tick.

func TestTick(t *testing.T) {
	cases := []struct {
		c    []int
		who  int
		want []int
	}{
		{[]int{1}, 2, []int{1, 0, 1}},
		{nil, 0, []int{1}},
		{[]int{}, 3, []int{0, 0, 0, 1}},
		{[]int{1}, 0, []int{2}},
		{[]int{1, 2, 3}, 1, []int{1, 3, 3}},
		{[]int{1, 2, 3}, 3, []int{1, 2, 3, 1}},
		{[]int{1, 2, 0, 0}, 0, []int{2, 2}},
		{[]int{1, 2, 0, 0}, 2, []int{1, 2, 1}},
		{[]int{0, 0, 0}, 1, []int{0, 1}},
		{[]int{greatest, 5}, 1, []int{greatest, 6}},
		{[]int{5, greatest - 1}, 1, []int{5, greatest}},
	}
	for _, c := range cases {
		ticks(t, c.c, c.who, c.want)
	}
}

// Each of 16 people in a list of each length, with zeros at its end and without.
func TestTickOfEachPerson(t *testing.T) {
	for who := range most {
		for n := range most + 1 {
			for behind := range most + 1 - n {
				for _, c := range [][]int{
					zeros(n), slices.Repeat([]int{1}, n), slices.Repeat([]int{greatest - 1}, n), some(5, n), some(6, n),
				} {
					c = joined(c, zeros(behind))
					ticks(t, c, who, wantTick(c, who))
				}
			}
		}
	}
}

// A clock that counts: one more each time, and nothing else changes.
func TestTickManyTimes(t *testing.T) {
	var c []int
	want := zeros(most)
	for i := range 2000 {
		who := (i * i) % 17 % most
		c = tick(t, c, who)
		want[who]++
		if !slices.Equal(c, cut(want)) {
			t.Fatalf("behind %d ticks: got %v, want %v", i+1, c, want)
		}
	}
}

// What is told is at least what was handed in, and not at most that.
func TestTickIsAboveWhatItWas(t *testing.T) {
	for seed := range 20 {
		for who := range most {
			c := some(byte(seed), seed%17)
			next := tick(t, c, who)
			belows(t, c, next, true)
			belows(t, next, c, false)
		}
	}
}

func TestTickOfNobody(t *testing.T) {
	for _, who := range nobody() {
		for n := range most + 1 {
			wantNoTick(t, zeros(n), who, api.ErrRange)
			wantNoTick(t, some(7, n), who, api.ErrRange)
		}
	}
}

func TestTickOfTheGreatestNumber(t *testing.T) {
	for n := 1; n <= most; n++ {
		for who := range n {
			c := some(8, n)
			ticks(t, with(c, who, greatest-1), who, cut(with(c, who, greatest)))
			wantNoTick(t, with(c, who, greatest), who, api.ErrRange)
			wantNoTick(t, joined(with(c, who, greatest), zeros(most-n)), who, api.ErrRange)
			wantNoTick(t, slices.Repeat([]int{greatest}, n), who, api.ErrRange)
		}
	}
}

// That one has 2^63 - 1 is no matter to the others.
func TestTickWhereAnotherOneHasTheGreatestNumber(t *testing.T) {
	for n := 1; n <= most; n++ {
		for full := range n {
			c := with(some(9, n), full, greatest)
			for who := range most {
				if who != full {
					ticks(t, c, who, wantTick(c, who))
				}
			}
		}
	}
	for who := range most {
		c := with(slices.Repeat([]int{greatest}, most), who, 4)
		ticks(t, c, who, with(c, who, 5))
	}
}

func TestTickOfAWrongClock(t *testing.T) {
	for _, who := range append(nobody(), 0, 1, 7, 15) {
		for n := 17; n < 40; n++ {
			wantNoTick(t, zeros(n), who, api.ErrFull)
			wantNoTick(t, slices.Repeat([]int{greatest}, n), who, api.ErrFull)
			wantNoTick(t, slices.Repeat([]int{-1}, n), who, api.ErrFull)
		}
		for n := 1; n <= most; n++ {
			for i := range n {
				wantNoTick(t, with(some(10, n), i, -1), who, api.ErrRange)
				wantNoTick(t, with(some(10, n), i, math.MinInt), who, api.ErrRange)
			}
		}
	}
}

// One more for who has -1 would make it 0: it is refused all the same.
func TestTickDoesNotMakeAClockGood(t *testing.T) {
	for n := 1; n <= most; n++ {
		for who := range n {
			wantNoTick(t, with(zeros(n), who, -1), who, api.ErrRange)
		}
	}
}

func TestTickOfEachList(t *testing.T) {
	for _, c := range lists(4, -1, 0, 1, greatest-1, greatest) {
		for who := -1; who < most+1; who++ {
			if want := wantWrongTick(c, who); want != api.OK {
				wantNoTick(t, c, who, want)
				continue
			}
			ticks(t, c, who, wantTick(c, who))
		}
	}
}

func TestTickLeavesWhatItIsGiven(t *testing.T) {
	for n := range 20 {
		for who := -1; who <= most; who++ {
			for _, c := range [][]int{some(11, n), zeros(n), slices.Repeat([]int{-1}, n), slices.Repeat([]int{greatest}, n)} {
				room := withRoom(c)
				clock.Tick(room, who)
				if want := withRoom(c); !slices.Equal(room[:n+5], want[:n+5]) {
					t.Errorf("Tick of %v for %d has changed it to %v", want[:n+5], who, room[:n+5])
				}
			}
		}
	}
}

// What stands behind a list in its memory is no number of the clock.
func TestTickDoesNotReadBehindItsList(t *testing.T) {
	for n := range most + 1 {
		for who := range most {
			c := some(12, n)
			ticks(t, withRoom(c), who, wantTick(c, who))
		}
	}
}

// Whoever writes into what was told, up to the end of its memory, changes nothing else; nor is it changed later.
func TestTickTellsFreshMemory(t *testing.T) {
	for n := range most + 1 {
		for who := range most {
			room := withRoom(some(13, n))
			want := wantTick(room, who)
			first, second := tick(t, room, who), tick(t, room, who)
			clear(first[:cap(first)])
			if !slices.Equal(second, want) || !slices.Equal(room[:n+5], withRoom(some(13, n))[:n+5]) {
				t.Errorf("Tick of %v for %d shares its memory", room, who)
			}
			clear(room[:n+5])
			if !slices.Equal(second, want) {
				t.Errorf("Tick of %d numbers for %d keeps what it was given", n, who)
			}
		}
	}
}

func TestTickBehindAnError(t *testing.T) {
	c := []int{4, greatest, 0}
	for range 3 {
		wantNoTick(t, c, 1, api.ErrRange)
		wantNoTick(t, c, -1, api.ErrRange)
		wantNoTick(t, c, 16, api.ErrRange)
		wantNoTick(t, zeros(17), 0, api.ErrFull)
		ticks(t, c, 0, []int{5, greatest})
	}
}

// CK2: Join.

func TestJoin(t *testing.T) {
	cases := []struct{ a, b, want []int }{
		{[]int{1, 5, 0}, []int{2}, []int{2, 5}},
		{nil, nil, nil},
		{nil, []int{}, nil},
		{[]int{1}, nil, []int{1}},
		{nil, []int{0, 2}, []int{0, 2}},
		{[]int{1, 2, 3}, []int{3, 2, 1}, []int{3, 2, 3}},
		{[]int{1}, []int{0, 0, 4}, []int{1, 0, 4}},
		{[]int{0, 0, 0}, []int{0}, nil},
		{[]int{1, 0, 0}, []int{0, 1, 0, 0, 0}, []int{1, 1}},
		{[]int{greatest, 0}, []int{greatest - 1, greatest}, []int{greatest, greatest}},
	}
	for _, c := range cases {
		joins(t, c.a, c.b, c.want)
		joins(t, c.b, c.a, c.want)
	}
}

func TestJoinOfEachTwoLengths(t *testing.T) {
	for n := range most + 1 {
		for m := range most + 1 {
			for seed := range 6 {
				a, b := some(byte(seed), n), some(byte(seed+100), m)
				joins(t, a, b, wantJoin(a, b))
				joins(t, slices.Repeat([]int{seed}, n), b, wantJoin(slices.Repeat([]int{seed}, n), b))
			}
		}
	}
}

// Zeros at the ends, of one, of the other one and of both: what is told has none of them.
func TestJoinWithZerosAtTheEnds(t *testing.T) {
	for n := range most + 1 {
		for m := range most + 1 {
			a, b := some(14, n), some(15, m)
			want := wantJoin(a, b)
			joins(t, joined(a, zeros(most-n)), b, want)
			joins(t, a, joined(b, zeros(most-m)), want)
			joins(t, joined(a, zeros(most-n)), joined(b, zeros(most-m)), want)
			joins(t, zeros(n), zeros(m), nil)
		}
	}
}

// Each person's number is the greater one of that person's, whatever the others have.
func TestJoinOfOneNumberEach(t *testing.T) {
	for i := range most {
		for j := range most {
			a, b := with(zeros(most), i, 5), with(zeros(most), j, 9)
			want := cut(with(a, j, 9))
			joins(t, a, b, want)
			joins(t, b, a, want)
			joins(t, a[:i+1], b[:j+1], want)
		}
	}
}

func TestJoinOfOneWithItself(t *testing.T) {
	for n := range most + 1 {
		for seed := range 10 {
			c := some(byte(seed), n)
			joins(t, c, c, cut(c))
			joins(t, c, nil, cut(c))
			joins(t, nil, c, cut(c))
		}
	}
}

// Who has heard the same knows the same: in whichever order, and however often.
func TestJoinInEachOrder(t *testing.T) {
	for n := range 200 {
		a, b, c := some(byte(n), n%17), some(byte(n+1), n*7%17), some(byte(n+2), n*3%17)
		all := join(t, join(t, a, b), c)
		joins(t, c, join(t, b, a), all)
		joins(t, join(t, c, a), b, all)
		joins(t, all, b, all)
		joins(t, all, all, all)
	}
}

// Both are at most what is told of them, and it is at most whatever both are at most.
func TestJoinIsTheLeastAboveBoth(t *testing.T) {
	all := lists(3, 0, 1, 2)
	for _, a := range all {
		for _, b := range all {
			both := join(t, a, b)
			belows(t, a, both, true)
			belows(t, b, both, true)
			for _, c := range all {
				if isBelow(t, a, c) && isBelow(t, b, c) {
					belows(t, both, c, true)
				}
			}
		}
	}
}

func TestJoinLeavesWhatItIsGiven(t *testing.T) {
	for n := range 19 {
		for m := range 19 {
			for low := range 4 {
				a, b := withRoom(some(16, n)), withRoom(some(17, m))
				if low&1 == 1 && n > 0 {
					a[n/2] = -1
				}
				if low&2 == 2 && m > 0 {
					b[m/2] = -1
				}
				wasA, wasB := slices.Clone(a[:n+5]), slices.Clone(b[:m+5])
				clock.Join(a, b)
				clock.Below(a, b)
				if !slices.Equal(a[:n+5], wasA) || !slices.Equal(b[:m+5], wasB) {
					t.Errorf("Join or Below of %v and %v has changed them to %v and %v", wasA, wasB, a[:n+5], b[:m+5])
				}
			}
		}
	}
}

// What stands behind a list in its memory is no number of the clock.
func TestJoinAndBelowDoNotReadBehindTheirLists(t *testing.T) {
	for n := range most + 1 {
		for m := range most + 1 {
			a, b := some(18, n), some(18, m)
			joins(t, withRoom(a), withRoom(b), wantJoin(a, b))
			belows(t, withRoom(a), withRoom(b), wantBelow(a, b))
		}
	}
}

// Whoever writes into what was told, up to the end of its memory, changes nothing else; nor is it changed later.
func TestJoinTellsFreshMemory(t *testing.T) {
	for n := range most + 1 {
		for m := range most + 1 {
			a, b := withRoom(some(19, n)), withRoom(some(20, m))
			want := wantJoin(a, b)
			first, second := join(t, a, b), join(t, a, b)
			clear(first[:cap(first)])
			if !slices.Equal(second, want) ||
				!slices.Equal(a[:n+5], withRoom(some(19, n))[:n+5]) || !slices.Equal(b[:m+5], withRoom(some(20, m))[:m+5]) {
				t.Errorf("Join of %v and %v shares its memory", a, b)
			}
			clear(a[:n+5])
			clear(b[:m+5])
			if !slices.Equal(second, want) {
				t.Errorf("Join of %d and %d numbers keeps what it was given", n, m)
			}
		}
	}
}

// Both may be parts of one list.
func TestJoinOfPartsOfOneList(t *testing.T) {
	room := some(21, 32)
	for i := range most {
		for n := range most + 1 {
			a, b := room[i:i+n], room[i/2:most]
			joins(t, a, b, wantJoin(a, b))
			clear(join(t, a, a))
			clear(join(t, a, nil))
			clear(join(t, nil, a))
			belows(t, a, b, wantBelow(a, b))
		}
	}
	if !slices.Equal(room, some(21, 32)) {
		t.Error("what was handed in was changed")
	}
}

// CK2: Below.

func TestBelow(t *testing.T) {
	cases := []struct {
		a, b []int
		want bool
	}{
		{[]int{1, 0, 0}, []int{1}, true},
		{[]int{1, 1}, []int{2}, false},
		{nil, nil, true},
		{nil, []int{}, true},
		{nil, []int{1}, true},
		{[]int{1}, nil, false},
		{[]int{0}, nil, true},
		{[]int{1}, []int{1}, true},
		{[]int{1}, []int{2}, true},
		{[]int{2}, []int{1}, false},
		{[]int{1, 2}, []int{2, 1}, false},
		{[]int{2, 1}, []int{1, 2}, false},
		{[]int{1, 2}, []int{1, 2, 3}, true},
		{[]int{1, 2, 3}, []int{1, 2}, false},
		{[]int{1, 2, 0}, []int{1, 2}, true},
		{[]int{greatest}, []int{greatest}, true},
		{[]int{greatest}, []int{greatest - 1}, false},
		{[]int{greatest - 1}, []int{greatest}, true},
		{[]int{greatest}, []int{0, greatest}, false},
	}
	for _, c := range cases {
		belows(t, c.a, c.b, c.want)
	}
}

func TestBelowOfEachTwoLengths(t *testing.T) {
	for n := range most + 1 {
		for m := range most + 1 {
			for seed := range 6 {
				a, b := some(byte(seed), n), some(byte(seed), m)
				belows(t, a, b, wantBelow(a, b))
				belows(t, joined(a, zeros(most-n)), b, wantBelow(a, b))
				belows(t, a, joined(b, zeros(most-m)), wantBelow(a, b))
				other := some(byte(seed+50), m)
				belows(t, a, other, wantBelow(a, other))
			}
			belows(t, zeros(n), zeros(m), true)
			belows(t, zeros(n), some(22, m), true)
		}
	}
}

// One number that is above that of the other one is enough, wherever it stands.
func TestBelowWhereOneNumberIsAbove(t *testing.T) {
	for n := 1; n <= most; n++ {
		for i := range n {
			c := slices.Repeat([]int{7}, n)
			belows(t, with(c, i, 8), c, false)
			belows(t, c, with(c, i, 8), true)
			belows(t, c, with(c, i, 6), false)
			belows(t, with(c, i, 6), c, true)
			belows(t, with(c, i, greatest), c, false)
			belows(t, with(zeros(n), i, 1), zeros(i), false)
			belows(t, zeros(i), with(zeros(n), i, 1), true)
			if n > 1 {
				j := (i + 1) % n
				belows(t, with(with(c, i, 8), j, 6), c, false)
				belows(t, c, with(with(c, i, 8), j, 6), false)
			}
		}
	}
}

func TestBelowOfEqualOnes(t *testing.T) {
	for n := range most + 1 {
		for seed := range 10 {
			c := some(byte(seed), n)
			belows(t, c, c, true)
			belows(t, c, slices.Clone(c), true)
			belows(t, c, cut(c), true)
			belows(t, cut(c), c, true)
		}
	}
}

// CK2: Join and Below of all small lists, right ones and wrong ones.
func TestJoinAndBelowOfEachTwoLists(t *testing.T) {
	all := lists(3, -1, 0, 1, 2, greatest)
	for _, a := range all {
		for _, b := range all {
			if want := wantWrongOfBoth(a, b); want != api.OK {
				wantNeither(t, a, b, want)
				continue
			}
			joins(t, a, b, wantJoin(a, b))
			belows(t, a, b, wantBelow(a, b))
		}
	}
}

// Of two that are both wrong, the first one's error is told.
func TestJoinAndBelowOfWrongClocks(t *testing.T) {
	low, long, both := []int{3, -1, 4}, zeros(17), with(zeros(17), 16, -1)
	right := [][]int{nil, {1}, {0, 0}, zeros(most), slices.Repeat([]int{greatest}, most)}
	for _, c := range right {
		wantNeither(t, c, low, api.ErrRange)
		wantNeither(t, low, c, api.ErrRange)
		for _, full := range [][]int{long, both} {
			wantNeither(t, c, full, api.ErrFull)
			wantNeither(t, full, c, api.ErrFull)
		}
	}
	for _, full := range [][]int{long, both} {
		wantNeither(t, low, full, api.ErrRange)
		wantNeither(t, full, low, api.ErrFull)
		wantNeither(t, full, full, api.ErrFull)
	}
	wantNeither(t, low, low, api.ErrRange)
}

// A number below 0 is refused where it would count for nothing, too.
func TestJoinAndBelowOfANumberBelow0(t *testing.T) {
	for n := 1; n <= most; n++ {
		for i := range n {
			for _, number := range below() {
				c := with(some(23, n), i, number)
				wantNeither(t, c, slices.Repeat([]int{5}, most), api.ErrRange)
				wantNeither(t, slices.Repeat([]int{5}, most), c, api.ErrRange)
				wantNeither(t, c, nil, api.ErrRange)
				wantNeither(t, nil, c, api.ErrRange)
			}
		}
	}
}

func TestJoinAndBelowOfMore(t *testing.T) {
	for n := 17; n < 70; n++ {
		for m := range most + 1 {
			wantNeither(t, zeros(n), some(24, m), api.ErrFull)
			wantNeither(t, some(24, m), zeros(n), api.ErrFull)
		}
		// The first number above 0 would tell Below its answer; it looks at both clocks ahead of that.
		wantNeither(t, []int{1}, zeros(n), api.ErrFull)
		wantNeither(t, slices.Repeat([]int{2}, n), []int{1}, api.ErrFull)
	}
}

func TestJoinAndBelowBehindAnError(t *testing.T) {
	a, b := []int{1, 5, 0}, []int{2}
	for range 3 {
		wantNeither(t, a, []int{-1}, api.ErrRange)
		wantNeither(t, zeros(17), b, api.ErrFull)
		joins(t, a, b, []int{2, 5})
		belows(t, a, b, false)
		belows(t, b, []int{2, 5}, true)
	}
}

// The digest is told by a throw-away script of the same words.
func TestTold(t *testing.T) {
	var told strings.Builder
	for seed := range 250 {
		a, b := some(byte(seed), seed%17), some(byte(seed+3), seed*5%17)
		both := join(t, a, b)
		next := tick(t, a, seed*3%most)
		told.WriteString(fmt.Sprint(both, next, isBelow(t, a, b), isBelow(t, a, both), isBelow(t, next, both), "\n"))
	}
	sum := sha256.Sum256([]byte(told.String()))
	if got := hex.EncodeToString(sum[:]); got != "bf05cb98b679ddb0eba205d353642fb9c28476f41cb530bb24a3417e5258f75f" {
		t.Errorf("got a text of digest %s, which begins %.200q", got, told.String())
	}
}

// What clocks have told, asked side by side, is the same: nothing is kept from call to call.
func TestSideBySide(t *testing.T) {
	var group sync.WaitGroup
	for n := range 40 {
		a, b := some(byte(n), n%17), some(byte(n+60), n*7%17)
		group.Go(func() {
			for range 50 {
				next, err := clock.Tick(a, n%most)
				if err != nil || !slices.Equal(next, wantTick(a, n%most)) {
					t.Errorf("Tick of %v: got %v and %v", a, next, err)
				}
				both, err := clock.Join(a, b)
				if err != nil || !slices.Equal(both, wantJoin(a, b)) {
					t.Errorf("Join of %v and %v: got %v and %v", a, b, both, err)
				}
				is, err := clock.Below(a, b)
				if err != nil || is != wantBelow(a, b) {
					t.Errorf("Below of %v and %v: got %v and %v", a, b, is, err)
				}
			}
		})
	}
	group.Wait()
}
