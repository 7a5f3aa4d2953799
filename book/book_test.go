package book_test

import (
	"bytes"
	"crypto/sha256"
	"encoding/hex"
	"fmt"
	"math"
	"regexp"
	"slices"
	"sort"
	"strings"
	"sync"
	"testing"

	"oathbook/api"
	"oathbook/book"
	"oathbook/plain"
)

// most: so many contacts a book may have.
const most = 40

// longest: so many bytes a name may have.
const longest = 30

// good: the bytes that a name may have.
const good = "abcdefghijklmnopqrstuvwxyz0123456789-"

// nothing: the key of a name that others have too.
var nothing = api.Digest{}

// key: a key that is something, another one for each number.
func key(n int) api.Digest {
	return sha256.Sum256([]byte(fmt.Sprint("key ", n)))
}

// contact: one of these three.
func contact(name string, k api.Digest, level int) api.Contact {
	return api.Contact{Name: name, Key: k, Level: level}
}

// one: a contact at this level, with the key of this number where it has one at all.
func one(name string, n, level int) api.Contact {
	if level == 2 || level == 4 {
		return contact(name, nothing, level)
	}
	return contact(name, key(n), level)
}

// bookOf: a book of the contacts that are given.
func bookOf(cs ...api.Contact) []api.Contact { return cs }

// many: a book of n contacts whose names begin with this text, at all levels by turns.
func many(begin string, n int) []api.Contact {
	b := []api.Contact{}
	for i := range n {
		b = append(b, one(fmt.Sprintf("%s%05d", begin, i), i, 1+i%4))
	}
	return b
}

// some: a book of at most n contacts, of 60 names and two keys, another one for each seed.
func some(seed, n int) []api.Contact {
	of := map[string]api.Contact{}
	for i := range n {
		sum := sha256.Sum256([]byte{byte(seed), byte(i)})
		name := fmt.Sprint("n-", sum[0]%60)
		of[name] = one(name, int(sum[1]%2), 1+int(sum[2]%4))
	}
	return inOrder(of)
}

// inOrder: contacts by their names, byte by byte.
func inOrder(of map[string]api.Contact) []api.Contact {
	b := []api.Contact{}
	for _, c := range of {
		b = append(b, c)
	}
	sort.Slice(b, func(i, j int) bool { return bytes.Compare([]byte(b[i].Name), []byte(b[j].Name)) < 0 })
	return b
}

// joined: lists, one behind the other, in memory of their own.
func joined(bs ...[]api.Contact) []api.Contact { return slices.Concat(bs...) }

// with: a list with another contact at this place.
func with(b []api.Contact, at int, c api.Contact) []api.Contact {
	b = slices.Clone(b)
	b[at] = c
	return b
}

// without: a list without the contact at this place.
func without(b []api.Contact, at int) []api.Contact {
	return slices.Delete(slices.Clone(b), at, at+1)
}

// room: so many contacts that are nobody's stand behind a list of withRoom.
const room = 5

// withRoom: the same contacts, with room behind them in which stands what is nobody's.
func withRoom(b []api.Contact) []api.Contact {
	all := append(slices.Clone(b),
		contact("", nothing, 9), one("zz", 1, 1), contact("zz", nothing, 3), contact("A", key(1), -1), one("zzz", 2, 4))
	return all[:len(b)]
}

// noLevel: numbers that are no level.
func noLevel() []int {
	return []int{0, 5, -1, 6, 7, 8, 255, 256, 257, 259, 1 << 16, 1<<32 + 1, 1<<32 + 3, 1 << 62, math.MaxInt, -2, -3, -255, -1<<32 + 1, math.MinInt, math.MinInt + 1}
}

// noName: texts that are no name.
func noName() []string {
	return []string{
		"", "A", "Ann", "aNn", "anN", "a b", " a", "a ", "a_b", "a.b", "a/b", "a:b", "a`b", "a{b", "a@b", "a[b", "a\x00", "\x00", "a\n", "\na", "a\tb",
		"\x7f", "a\x80", "\xff", "a\xc3", "\u00e4nn", "ann\u00e9", "a\u0430", "\uff11", "\u2010", "\u2212a", "\u0131", "\u017f", "\ufffd", "\U0001d41a",
		strings.Repeat("a", 31), strings.Repeat("-", 31), strings.Repeat("A", 31), strings.Repeat("a", 286), strings.Repeat("a", 1<<16+3),
	}
}

// lists: all lists of at most so many of these contacts.
func lists(longest int, of ...api.Contact) [][]api.Contact {
	all := [][]api.Contact{nil}
	for last := all; longest > 0; longest-- {
		var next [][]api.Contact
		for _, b := range last {
			for _, c := range of {
				next = append(next, append(slices.Clone(b), c))
			}
		}
		all = append(all, next...)
		last = next
	}
	return all
}

// small: all books of these names and two keys.
func small(names ...string) [][]api.Contact {
	all := [][]api.Contact{nil}
	for _, name := range names {
		var next [][]api.Contact
		for _, b := range all {
			next = append(next, b)
			for _, c := range ofName(name) {
				next = append(next, append(slices.Clone(b), c))
			}
		}
		all = next
	}
	return all
}

// ofName: what a book may have of a name, of two keys.
func ofName(name string) []api.Contact {
	return []api.Contact{one(name, 1, 1), one(name, 2, 1), one(name, 1, 2), one(name, 1, 3), one(name, 2, 3), one(name, 1, 4)}
}

// aName: the form of a name.
var aName = regexp.MustCompile(`\A[a-z0-9-]{1,30}\z`)

// wantWrong: what is wrong with a book, by the chapter's words.
func wantWrong(b []api.Contact) api.Errno {
	if len(b) > most {
		return api.ErrFull
	}
	for i, c := range b {
		if !aName.MatchString(c.Name) {
			return api.ErrSyntax
		}
		if i > 0 && bytes.Compare([]byte(b[i-1].Name), []byte(c.Name)) >= 0 {
			return api.ErrTwice
		}
		switch c.Level {
		case 1, 3:
			if c.Key == nothing {
				return api.ErrFork
			}
		case 2, 4:
			if c.Key != nothing {
				return api.ErrFork
			}
		default:
			return api.ErrRange
		}
	}
	return api.OK
}

// wantWrongJoin: what is wrong with the first of two books, or else with the other one, or else with both together.
func wantWrongJoin(a, b []api.Contact) api.Errno {
	if wrong := wantWrong(a); wrong != api.OK {
		return wrong
	}
	if wrong := wantWrong(b); wrong != api.OK {
		return wrong
	}
	if len(wantJoin(a, b)) > most {
		return api.ErrFull
	}
	return api.OK
}

// wantJoin: each name of both.
func wantJoin(a, b []api.Contact) []api.Contact {
	of := map[string]api.Contact{}
	for _, c := range a {
		of[c.Name] = c
	}
	for _, c := range b {
		if known, isThere := of[c.Name]; isThere {
			c = wantOne(known, c)
		}
		of[c.Name] = c
	}
	return inOrder(of)
}

// wantOne: what is told of a name that two books have: trust counts more than having met; if that leaves one, it; else there are others.
func wantOne(c, d api.Contact) api.Contact {
	counts := func(c api.Contact) int { return (c.Level - 1) / 2 }
	if counts(c) > counts(d) {
		return c
	}
	if counts(d) > counts(c) {
		return d
	}
	if c.Level == d.Level && bytes.Equal(c.Key[:], d.Key[:]) {
		return c
	}
	return contact(c.Name, nothing, 2*counts(c)+2)
}

// join: Join where nothing is wrong.
func join(t *testing.T, a, b []api.Contact) []api.Contact {
	t.Helper()
	both, err := book.Join(a, b)
	if err != nil {
		t.Fatalf("Join of %v and %v: %v", a, b, err)
	}
	return both
}

// meet: Meet where nothing is wrong.
func meet(t *testing.T, b []api.Contact, name string, k api.Digest) []api.Contact {
	t.Helper()
	next, err := book.Meet(b, name, k)
	if err != nil {
		t.Fatalf("Meet of %v, %q and %x: %v", b, name, k, err)
	}
	return next
}

// trust: Trust where nothing is wrong.
func trust(t *testing.T, b []api.Contact, name string, k api.Digest) []api.Contact {
	t.Helper()
	next, err := book.Trust(b, name, k)
	if err != nil {
		t.Fatalf("Trust of %v, %q and %x: %v", b, name, k, err)
	}
	return next
}

// checks: asks whether Check tells this, and once more the same.
func checks(t *testing.T, b []api.Contact, want api.Errno) {
	t.Helper()
	for range 2 {
		if err := book.Check(b); plain.Told(err) != want {
			t.Errorf("Check of %.500q: got %v, want %v", fmt.Sprint(b), err, want)
		}
	}
}

// joins: asks whether Join tells this book.
func joins(t *testing.T, a, b, want []api.Contact) {
	t.Helper()
	if both := join(t, a, b); !slices.Equal(both, want) {
		t.Errorf("Join of %v and %v: got %v, want %v", a, b, both, want)
	}
}

// joinsBothWays: asks whether Join tells this book in both orders.
func joinsBothWays(t *testing.T, a, b, want []api.Contact) {
	t.Helper()
	joins(t, a, b, want)
	joins(t, b, a, want)
}

// meets: asks whether Meet tells this book.
func meets(t *testing.T, b []api.Contact, name string, k api.Digest, want []api.Contact) {
	t.Helper()
	if next := meet(t, b, name, k); !slices.Equal(next, want) {
		t.Errorf("Meet of %v, %q and %x: got %v, want %v", b, name, k, next, want)
	}
}

// trusts: asks whether Trust tells this book.
func trusts(t *testing.T, b []api.Contact, name string, k api.Digest, want []api.Contact) {
	t.Helper()
	if next := trust(t, b, name, k); !slices.Equal(next, want) {
		t.Errorf("Trust of %v, %q and %x: got %v, want %v", b, name, k, next, want)
	}
}

// wantNoJoin: asks whether Join tells this error and nothing beside it.
func wantNoJoin(t *testing.T, a, b []api.Contact, want api.Errno) {
	t.Helper()
	both, err := book.Join(a, b)
	if len(both) != 0 || plain.Told(err) != want {
		t.Errorf("Join of %.300q and %.300q: got %v and %v, want %v", fmt.Sprint(a), fmt.Sprint(b), both, err, want)
	}
}

// wantNeither: asks whether Meet and Trust tell this error and nothing beside it.
func wantNeither(t *testing.T, b []api.Contact, name string, k api.Digest, want api.Errno) {
	t.Helper()
	next, err := book.Meet(b, name, k)
	if len(next) != 0 || plain.Told(err) != want {
		t.Errorf("Meet of %.300q, %.100q and %x: got %v and %v, want %v", fmt.Sprint(b), name, k, next, err, want)
	}
	next, err = book.Trust(b, name, k)
	if len(next) != 0 || plain.Told(err) != want {
		t.Errorf("Trust of %.300q, %.100q and %x: got %v and %v, want %v", fmt.Sprint(b), name, k, next, err, want)
	}
}

// meetsAndTrusts: asks whether Meet and Trust tell what the chapter's words do of this name and key, or the error.
func meetsAndTrusts(t *testing.T, b []api.Contact, name string, k api.Digest) {
	t.Helper()
	if wrong := wantWrongJoin(b, bookOf(contact(name, k, 1))); wrong != api.OK {
		wantNeither(t, b, name, k, wrong)
		return
	}
	meets(t, b, name, k, wantJoin(b, bookOf(contact(name, k, 1))))
	trusts(t, b, name, k, wantJoin(b, bookOf(contact(name, k, 3))))
}

// BK1: Check of how many there are.

func TestCheck(t *testing.T) {
	checks(t, nil, api.OK)
	checks(t, []api.Contact{}, api.OK)
	for level := 1; level <= 4; level++ {
		checks(t, bookOf(one("ann", 1, level)), api.OK)
		checks(t, bookOf(one("ann", 1, level), one("bob", 1, level), one("cid", 2, level)), api.OK)
	}
}

func TestCheckOfEachNumberOfContacts(t *testing.T) {
	for n := range 100 {
		want := api.OK
		if n > 40 {
			want = api.ErrFull
		}
		checks(t, many("", n), want)
		checks(t, many("some-", n), want)
	}
	for _, n := range []int{255, 256, 257, 296, 65536, 65576} {
		checks(t, many("", n), api.ErrFull)
		checks(t, make([]api.Contact, n), api.ErrFull)
	}
}

// That there are more comes ahead of whatever is wrong with one of them.
func TestCheckOfMoreThatAreWrong(t *testing.T) {
	checks(t, make([]api.Contact, 40), api.ErrSyntax)
	checks(t, make([]api.Contact, 41), api.ErrFull)
	for i := range 41 {
		for _, c := range []api.Contact{contact("A", key(1), 1), one("", 1, 1), one("zz", 1, 0), contact("zz", nothing, 1), one("-", 1, 1)} {
			checks(t, with(many("", 41), i, c), api.ErrFull)
		}
	}
}

// BK1: names.

func TestCheckOfANameOfEachLength(t *testing.T) {
	for n := range 300 {
		want := api.OK
		if n == 0 || n > longest {
			want = api.ErrSyntax
		}
		for _, letter := range []string{"a", "z", "0", "9", "-"} {
			checks(t, bookOf(one(strings.Repeat(letter, n), 1, 1)), want)
		}
		checks(t, bookOf(one("a", 1, 1), one(strings.Repeat("b", n), 1, 2)), want)
	}
	for _, n := range []int{511, 512, 542, 65536, 65566, 1 << 20} {
		checks(t, bookOf(one(strings.Repeat("a", n), 1, 1)), api.ErrSyntax)
	}
}

// Each byte at each place of names of some lengths.
func TestCheckOfEachByteOfAName(t *testing.T) {
	for letter := range 256 {
		want := api.ErrSyntax
		if strings.IndexByte(good, byte(letter)) >= 0 {
			want = api.OK
		}
		for _, n := range []int{1, 2, 3, 15, 29, 30} {
			for at := range n {
				for _, other := range []byte{'m', '5', '-'} {
					name := bytes.Repeat([]byte{other}, n)
					name[at] = byte(letter)
					for level := 1; level <= 4; level++ {
						checks(t, bookOf(one(string(name), 1, level)), want)
					}
				}
			}
		}
	}
}

// Two bytes above 127 that are one letter together are none that a name has.
func TestCheckOfEachTwoBytes(t *testing.T) {
	for first := range 256 {
		for second := range 256 {
			name := string([]byte{byte(first), byte(second)})
			checks(t, bookOf(one(name, 1, 1)), wantWrong(bookOf(one(name, 1, 1))))
		}
	}
}

func TestCheckOfNoName(t *testing.T) {
	for _, name := range noName() {
		for level := 1; level <= 4; level++ {
			checks(t, bookOf(one(name, 1, level)), api.ErrSyntax)
			checks(t, bookOf(one("-", 1, 1), one(name, 1, level)), api.ErrSyntax)
			checks(t, bookOf(one(name, 1, level), one("zzz", 1, 1)), api.ErrSyntax)
		}
	}
	for _, name := range []string{"a", "z", "0", "9", "-", "--", "-a", "a-", "0-9", "007", "a-b-c", "n0t-1", good[:30], good[7:]} {
		checks(t, bookOf(one(name, 1, 1)), api.OK)
	}
}

// 30 bytes are enough for fewer letters of more than one byte each: neither is a name.
func TestCheckCountsBytes(t *testing.T) {
	for n := 1; n < 40; n++ {
		checks(t, bookOf(one(strings.Repeat("\u00e4", n), 1, 1)), api.ErrSyntax)
		checks(t, bookOf(one(strings.Repeat("a", n)+"\u20ac", 1, 1)), api.ErrSyntax)
	}
}

// BK1: their order.

func TestCheckOfTwoNames(t *testing.T) {
	cases := []struct {
		first, second string
		want          api.Errno
	}{
		{"ann", "bob", api.OK},
		{"bob", "ann", api.ErrTwice},
		{"ann", "ann", api.ErrTwice},
		{"ann", "anna", api.OK},
		{"anna", "ann", api.ErrTwice},
		{"ann", "ann-", api.OK},
		{"ann-", "ann", api.ErrTwice},
		{"ann-a", "ann0a", api.OK},
		{"ann0a", "ann-a", api.ErrTwice},
		{"ann-z", "anna", api.OK},
		{"anna", "ann-z", api.ErrTwice},
		{"ann9z", "anna", api.OK},
		{"anna", "ann9z", api.ErrTwice},
		{"10", "9", api.OK},
		{"9", "10", api.ErrTwice},
		{"09", "1", api.OK},
		{"1", "09", api.ErrTwice},
		{"z", "zz", api.OK},
		{"b", "aa", api.ErrTwice},
		{"b", "azzzzzzzzzzzzzzzzzzzzzzzzzzzzz", api.ErrTwice},
		{"-", "--", api.OK},
		{"--", "-", api.ErrTwice},
		{strings.Repeat("a", 29), strings.Repeat("a", 30), api.OK},
		{strings.Repeat("a", 30), strings.Repeat("a", 29), api.ErrTwice},
		{strings.Repeat("a", 29) + "b", strings.Repeat("a", 29) + "c", api.OK},
		{strings.Repeat("a", 29) + "c", strings.Repeat("a", 29) + "b", api.ErrTwice},
	}
	for _, c := range cases {
		for level := 1; level <= 4; level++ {
			checks(t, bookOf(one(c.first, 1, 1), one(c.second, 2, level)), c.want)
			checks(t, bookOf(one(c.first, 1, level), one(c.second, 1, 3)), c.want)
			checks(t, joined(bookOf(one(c.first, 1, level), one(c.second, 1, 3)), many("zz", 38)), c.want)
		}
	}
}

// Each two letters that a name may have, at a place of both.
func TestCheckOfEachTwoLetters(t *testing.T) {
	for _, first := range []byte(good) {
		for _, second := range []byte(good) {
			for n := range 3 {
				begin := strings.Repeat("m", n)
				for _, ends := range [][2]string{{"", ""}, {"a", ""}, {"", "a"}, {"z", "a"}, {"-", "z"}} {
					name, next := begin+string(first)+ends[0], begin+string(second)+ends[1]
					b := bookOf(one(name, 1, 1), one(next, 1, 1))
					want := api.ErrTwice
					if bytes.Compare([]byte(name), []byte(next)) < 0 {
						want = api.OK
					}
					checks(t, b, want)
				}
			}
		}
	}
}

// A name that stands twice, next to itself and farther off, is found wherever it stands.
func TestCheckOfANameThatStandsTwice(t *testing.T) {
	for n := 2; n <= most; n++ {
		b := many("", n)
		for i := 1; i < n; i++ {
			checks(t, with(b, i, b[i-1]), api.ErrTwice)
			checks(t, with(b, i, one(b[i-1].Name, 99, 3)), api.ErrTwice)
			checks(t, with(b, i, b[0]), api.ErrTwice)
			turned := with(with(b, i, b[i-1]), i-1, b[i])
			checks(t, turned, api.ErrTwice)
		}
	}
}

// BK1: levels and keys.

func TestCheckOfNoLevel(t *testing.T) {
	for _, level := range noLevel() {
		for _, k := range []api.Digest{nothing, key(1)} {
			checks(t, bookOf(contact("ann", k, level)), api.ErrRange)
			for i := range most {
				checks(t, with(many("", most), i, contact(many("", most)[i].Name, k, level)), api.ErrRange)
			}
		}
	}
}

func TestCheckOfAKey(t *testing.T) {
	checks(t, bookOf(contact("ann", nothing, 1)), api.ErrFork)
	checks(t, bookOf(contact("ann", nothing, 3)), api.ErrFork)
	checks(t, bookOf(contact("ann", key(1), 2)), api.ErrFork)
	checks(t, bookOf(contact("ann", key(1), 4)), api.ErrFork)
	for level := 1; level <= 4; level++ {
		wrong := contact("00000", key(1), level)
		if level%2 == 1 {
			wrong.Key = nothing
		}
		for i := range most {
			b := many("", most)
			wrong.Name = b[i].Name
			checks(t, with(b, i, wrong), api.ErrFork)
		}
	}
}

// One bit of a key is enough for it to be something, be it the last one.
func TestCheckOfEachBitOfAKey(t *testing.T) {
	for at := range 32 {
		for bit := range 8 {
			var k api.Digest
			k[at] = 1 << bit
			for level, want := range []api.Errno{api.ErrRange, api.OK, api.ErrFork, api.OK, api.ErrFork, api.ErrRange} {
				checks(t, bookOf(contact("ann", k, level)), want)
				checks(t, bookOf(one("aaa", 1, 1), contact("ann", k, level)), want)
			}
		}
	}
}

// Two names may have one key.
func TestCheckOfOneKeyTwice(t *testing.T) {
	checks(t, bookOf(one("ann", 1, 1), one("bob", 1, 1), one("cid", 1, 3)), api.OK)
}

// BK1: the order of errors.

// Of a contact of which several things are wrong, the one that the chapter names first is told.
func TestCheckOfSeveralThingsOfOne(t *testing.T) {
	names := []string{"", "Bob", "aaa", "bob", "cid"}
	levels := []int{0, 1, 2, 3, 4, 5, -1}
	keys := []api.Digest{nothing, key(1)}
	for _, name := range names {
		for _, level := range levels {
			for _, k := range keys {
				b := bookOf(one("bob", 1, 1), contact(name, k, level))
				checks(t, b, wantWrong(b))
				checks(t, b[1:], wantWrong(b[1:]))
				more := append(slices.Clone(b), contact("", nothing, 0))
				checks(t, more, wantWrong(more))
			}
		}
	}
	ahead := one("bob", 1, 1)
	checks(t, bookOf(ahead, contact("Bob", nothing, 5)), api.ErrSyntax)
	checks(t, bookOf(ahead, contact("bob", nothing, 5)), api.ErrTwice)
	checks(t, bookOf(ahead, contact("cid", nothing, 5)), api.ErrRange)
	checks(t, bookOf(ahead, contact("cid", nothing, 3)), api.ErrFork)
	checks(t, bookOf(ahead, contact("bob", nothing, 3)), api.ErrTwice)
	checks(t, bookOf(ahead, contact("Bob", key(1), 1)), api.ErrSyntax)
}

// All that is said of one comes ahead of all that is said of the next.
func TestCheckOneByOne(t *testing.T) {
	fork, spread, name := contact("bob", nothing, 1), contact("bob", key(1), 7), contact("Bob", key(1), 1)
	checks(t, bookOf(fork, name), api.ErrFork)
	checks(t, bookOf(fork, contact("cid", key(1), 0)), api.ErrFork)
	checks(t, bookOf(fork, one("ann", 1, 1)), api.ErrFork)
	checks(t, bookOf(spread, name), api.ErrRange)
	checks(t, bookOf(spread, one("ann", 1, 1)), api.ErrRange)
	checks(t, bookOf(one("bob", 1, 1), one("bob", 1, 1), name), api.ErrTwice)
	checks(t, bookOf(name, spread), api.ErrSyntax)
	checks(t, bookOf(name, fork), api.ErrSyntax)
	for i := range most {
		for j := i + 1; j < most; j++ {
			b := many("", most)
			b[i].Level = 9
			b[j].Name = "A"
			checks(t, b, api.ErrRange)
			b[i], b[j] = contact("A", nothing, 9), contact(b[j].Name, key(1), 9)
			checks(t, b, api.ErrSyntax)
		}
	}
}

func TestCheckOfEachSmallList(t *testing.T) {
	var of []api.Contact
	for _, name := range []string{"", "B", "a", "b"} {
		for _, level := range []int{0, 1, 2, 3} {
			of = append(of, contact(name, nothing, level), contact(name, key(1), level))
		}
	}
	for _, b := range lists(3, of...) {
		checks(t, b, wantWrong(b))
	}
}

// What stands behind a list in its memory is not looked at.
func TestCheckDoesNotReadBehindItsList(t *testing.T) {
	for n := range most + 1 {
		checks(t, withRoom(many("", n)), api.OK)
	}
	long := many("", 60)
	checks(t, long[:40], api.OK)
	checks(t, long[:41], api.ErrFull)
	checks(t, long[20:], api.OK)
}

func TestCheckLeavesWhatItIsGiven(t *testing.T) {
	for n := range 43 {
		for _, b := range [][]api.Contact{many("", n), make([]api.Contact, n), some(1, n), slices.Repeat(bookOf(one("ann", 1, 1)), n)} {
			given := withRoom(b)
			book.Check(given)
			if !slices.Equal(given[:len(b)+room], withRoom(b)[:len(b)+room]) {
				t.Errorf("Check of %v has changed it", b)
			}
		}
	}
}

// BK2: Join.

func TestJoin(t *testing.T) {
	ann, bob, cid := one("ann", 1, 1), one("bob", 2, 3), one("cid", 0, 4)
	cases := []struct{ a, b, want []api.Contact }{
		{nil, nil, nil},
		{[]api.Contact{}, nil, nil},
		{bookOf(ann), nil, bookOf(ann)},
		{bookOf(ann), []api.Contact{}, bookOf(ann)},
		{bookOf(ann), bookOf(bob), bookOf(ann, bob)},
		{bookOf(ann, bob), bookOf(cid), bookOf(ann, bob, cid)},
		{bookOf(ann, cid), bookOf(bob), bookOf(ann, bob, cid)},
		{bookOf(bob, cid), bookOf(ann), bookOf(ann, bob, cid)},
		{bookOf(ann, bob), bookOf(bob, cid), bookOf(ann, bob, cid)},
		{bookOf(ann, bob, cid), bookOf(ann, bob, cid), bookOf(ann, bob, cid)},
		{bookOf(one("ann", 1, 1)), bookOf(one("ann", 2, 1), bob), bookOf(one("ann", 0, 2), bob)},
		{bookOf(one("ann", 1, 3)), bookOf(one("ann", 2, 3), bob), bookOf(one("ann", 0, 4), bob)},
		{bookOf(one("ann-1", 1, 1), one("anna", 1, 1)), bookOf(one("ann", 1, 1), one("ann0", 1, 1)),
			bookOf(one("ann", 1, 1), one("ann-1", 1, 1), one("ann0", 1, 1), one("anna", 1, 1))},
	}
	for _, c := range cases {
		joinsBothWays(t, c.a, c.b, c.want)
	}
}

// A name that both have, at each two levels, with the same key and with another one.
func TestJoinOfANameThatBothHave(t *testing.T) {
	cases := []struct {
		c, d, want api.Contact
	}{
		{one("ann", 1, 1), one("ann", 1, 1), one("ann", 1, 1)},
		{one("ann", 1, 1), one("ann", 2, 1), one("ann", 0, 2)},
		{one("ann", 1, 1), one("ann", 0, 2), one("ann", 0, 2)},
		{one("ann", 1, 1), one("ann", 1, 3), one("ann", 1, 3)},
		{one("ann", 1, 1), one("ann", 2, 3), one("ann", 2, 3)},
		{one("ann", 1, 1), one("ann", 0, 4), one("ann", 0, 4)},
		{one("ann", 0, 2), one("ann", 0, 2), one("ann", 0, 2)},
		{one("ann", 0, 2), one("ann", 1, 3), one("ann", 1, 3)},
		{one("ann", 0, 2), one("ann", 0, 4), one("ann", 0, 4)},
		{one("ann", 1, 3), one("ann", 1, 3), one("ann", 1, 3)},
		{one("ann", 1, 3), one("ann", 2, 3), one("ann", 0, 4)},
		{one("ann", 1, 3), one("ann", 0, 4), one("ann", 0, 4)},
		{one("ann", 0, 4), one("ann", 0, 4), one("ann", 0, 4)},
	}
	first, last := one("a", 5, 1), one("z", 6, 3)
	for _, c := range cases {
		joinsBothWays(t, bookOf(c.c), bookOf(c.d), bookOf(c.want))
		joinsBothWays(t, bookOf(first, c.c), bookOf(c.d, last), bookOf(first, c.want, last))
		joinsBothWays(t, bookOf(first, c.c, last), bookOf(c.d), bookOf(first, c.want, last))
		joinsBothWays(t, bookOf(first, c.c, last), bookOf(first, c.d, last), bookOf(first, c.want, last))
	}
}

// Keys that differ in one bit are two keys.
func TestJoinOfKeysThatDifferInOneBit(t *testing.T) {
	for at := range 32 {
		for bit := range 8 {
			other := key(1)
			other[at] ^= 1 << bit
			for _, level := range []int{1, 3} {
				a, b := bookOf(contact("ann", key(1), level)), bookOf(contact("ann", other, level))
				joinsBothWays(t, a, b, bookOf(contact("ann", nothing, level+1)))
				joins(t, b, b, b)
			}
		}
	}
}

// Names ahead of, behind and between the other one's, in books of each length.
func TestJoinOfNamesThatOneHas(t *testing.T) {
	for n := range most + 1 {
		all := many("", n)
		for cut := range n + 1 {
			joinsBothWays(t, all[:cut], all[cut:], all)
		}
		for _, by := range []int{2, 3, 7} {
			var a, b []api.Contact
			for i, c := range all {
				if i%by == 0 {
					a = append(a, c)
				} else {
					b = append(b, c)
				}
			}
			joinsBothWays(t, a, b, all)
		}
		for i := range n {
			joinsBothWays(t, all[i:i+1], without(all, i), all)
		}
	}
}

func TestJoinOfABookWithNoneAndWithItself(t *testing.T) {
	for n := range most + 1 {
		for _, b := range [][]api.Contact{many("", n), some(n, n)} {
			joinsBothWays(t, b, nil, b)
			joinsBothWays(t, b, []api.Contact{}, b)
			joins(t, b, b, b)
			joins(t, b, slices.Clone(b), b)
		}
	}
}

func TestJoinOfSome(t *testing.T) {
	for n := range 31 {
		for m := range 31 {
			for seed := range 4 {
				a, b := some(seed, n), some(seed+100, m)
				if want := wantWrongJoin(a, b); want != api.OK {
					wantNoJoin(t, a, b, want)
					continue
				}
				joins(t, a, b, wantJoin(a, b))
			}
		}
	}
}

// All books of two names and two keys.
func TestJoinOfEachTwoSmallBooks(t *testing.T) {
	all := small("ann", "bob")
	for _, a := range all {
		for _, b := range all {
			joins(t, a, b, wantJoin(a, b))
		}
	}
}

// All small lists, right ones and wrong ones: the first one's error is told ahead of the other one's.
func TestJoinOfEachTwoSmallLists(t *testing.T) {
	all := lists(2, one("a", 1, 1), one("a", 2, 1), one("a", 0, 2), one("b", 1, 3), one("b", 2, 3), one("b", 0, 4),
		contact("a", nothing, 1), contact("b", key(1), 2), contact("b", key(1), 0), one("B", 1, 1), one("", 1, 1))
	all = append(all, many("", 41), make([]api.Contact, 41), many("c", 40))
	for _, a := range all {
		for _, b := range all {
			if want := wantWrongJoin(a, b); want != api.OK {
				wantNoJoin(t, a, b, want)
				continue
			}
			joins(t, a, b, wantJoin(a, b))
		}
	}
}

func TestJoinOfWrongBooks(t *testing.T) {
	right := bookOf(one("ann", 1, 1))
	wrong := map[api.Errno][]api.Contact{
		api.ErrFull:   many("", 41),
		api.ErrSyntax: bookOf(one("Ann", 1, 1)),
		api.ErrTwice:  bookOf(one("ann", 1, 1), one("ann", 1, 1)),
		api.ErrRange:  bookOf(one("ann", 1, 5)),
		api.ErrFork:   bookOf(contact("ann", nothing, 1)),
	}
	for want, a := range wrong {
		wantNoJoin(t, a, nil, want)
		wantNoJoin(t, nil, a, want)
		wantNoJoin(t, a, right, want)
		wantNoJoin(t, right, a, want)
		wantNoJoin(t, a, many("full", 40), want)
		wantNoJoin(t, many("full", 40), a, want)
		for _, b := range wrong {
			wantNoJoin(t, a, b, want)
		}
	}
}

// The names of both are counted once: 40 may be, 41 may not.
func TestJoinOfMoreThanABookHas(t *testing.T) {
	all := many("", 80)
	for n := range most + 1 {
		for m := range most + 1 {
			for _, from := range []int{0, n / 2, n, 40} {
				a, b := all[:n], all[from:from+m]
				if len(wantJoin(a, b)) <= 40 {
					joinsBothWays(t, a, b, wantJoin(a, b))
					continue
				}
				wantNoJoin(t, a, b, api.ErrFull)
				wantNoJoin(t, b, a, api.ErrFull)
			}
		}
	}
	joinsBothWays(t, all[:40], all[:40], all[:40])
	joinsBothWays(t, all[:40], all[39:40], all[:40])
	wantNoJoin(t, all[:40], all[40:41], api.ErrFull)
	wantNoJoin(t, all[40:41], all[:40], api.ErrFull)
	wantNoJoin(t, all[1:41], all[:1], api.ErrFull)
	wantNoJoin(t, all[:40], all[40:], api.ErrFull)
}

// Books that have all names in both, at other levels or with other keys, are not full.
func TestJoinOfTwoFullBooks(t *testing.T) {
	for turn := range 4 {
		var a, b []api.Contact
		for i := range most {
			name := fmt.Sprintf("n%02d", i)
			a = append(a, one(name, i%2, 1+i%4))
			b = append(b, one(name, i%3, 1+(i+turn)%4))
		}
		joinsBothWays(t, a, b, wantJoin(a, b))
		wantNoJoin(t, a, joined(b[:39], bookOf(one("n99", 1, 1))), api.ErrFull)
		wantNoJoin(t, a, joined(bookOf(one("n", 1, 1)), b[1:]), api.ErrFull)
	}
}

// Who has heard the same knows the same: in whichever order, and however often.
func TestJoinInEachOrder(t *testing.T) {
	all := small("ann", "bob")
	for i, a := range all {
		for j, b := range all {
			c := all[(i*5+j*11)%len(all)]
			together := join(t, join(t, a, b), c)
			joins(t, a, join(t, b, c), together)
			joins(t, join(t, c, a), b, together)
			joins(t, c, join(t, b, a), together)
			joins(t, together, b, together)
		}
	}
	of := append(ofName("ann"), one("bob", 1, 1))
	for _, c := range of {
		for _, d := range of {
			for _, e := range of {
				together := join(t, join(t, bookOf(c), bookOf(d)), bookOf(e))
				joins(t, bookOf(c), join(t, bookOf(d), bookOf(e)), together)
				joins(t, join(t, bookOf(e), bookOf(c)), bookOf(d), together)
			}
		}
	}
	for seed := range 200 {
		a, b, c := some(seed, 12), some(seed+1, 13), some(seed+2, 14)
		together := join(t, join(t, a, b), c)
		joins(t, join(t, c, b), a, together)
		joins(t, join(t, a, c), join(t, c, b), together)
	}
}

func TestJoinLeavesWhatItIsGiven(t *testing.T) {
	wrong := one("zzz", 1, 7)
	for n := range most + 2 {
		for m := range 20 {
			for bad := range 4 {
				a, b := many("", n), many("0", m)
				if bad&1 == 1 && n > 0 {
					a = with(a, n/2, wrong)
				}
				if bad&2 == 2 && m > 0 {
					b = with(b, m/2, wrong)
				}
				givenA, givenB := withRoom(a), withRoom(b)
				book.Join(givenA, givenB)
				book.Join(givenB, givenA)
				if !slices.Equal(givenA[:n+room], withRoom(a)[:n+room]) || !slices.Equal(givenB[:m+room], withRoom(b)[:m+room]) {
					t.Errorf("Join of %v and %v has changed them", a, b)
				}
			}
		}
	}
}

// A name that both have is joined in neither of them.
func TestJoinOfOneNameLeavesWhatItIsGiven(t *testing.T) {
	for _, a := range small("ann", "bob") {
		for _, b := range small("ann", "bob") {
			givenA, givenB := withRoom(a), withRoom(b)
			book.Join(givenA, givenB)
			if !slices.Equal(givenA[:len(a)+room], withRoom(a)[:len(a)+room]) || !slices.Equal(givenB[:len(b)+room], withRoom(b)[:len(b)+room]) {
				t.Errorf("Join of %v and %v has changed them", a, b)
			}
		}
	}
}

// What stands behind a list in its memory is no contact of the book.
func TestJoinDoesNotReadBehindItsLists(t *testing.T) {
	for n := range 20 {
		for m := range 20 {
			a, b := some(n, n), some(m+50, m)
			joins(t, withRoom(a), withRoom(b), wantJoin(a, b))
		}
	}
}

// Whoever writes into what was told, up to the end of its memory, changes nothing else; nor is it changed later.
func TestJoinTellsFreshMemory(t *testing.T) {
	for n := range 20 {
		for m := range 20 {
			for _, begin := range []string{"", "0", "x"} {
				a, b := withRoom(many("", n)), withRoom(many(begin, m))
				want := wantJoin(a, b)
				first, second := join(t, a, b), join(t, a, b)
				clear(first[:cap(first)])
				if !slices.Equal(second, want) ||
					!slices.Equal(a[:n+room], withRoom(many("", n))[:n+room]) || !slices.Equal(b[:m+room], withRoom(many(begin, m))[:m+room]) {
					t.Errorf("Join of %v and %v shares its memory", a, b)
				}
				clear(a[:n+room])
				clear(b[:m+room])
				if !slices.Equal(second, want) {
					t.Errorf("Join of %d and %d contacts keeps what it was given", n, m)
				}
			}
		}
	}
}

// Both may be parts of one list.
func TestJoinOfPartsOfOneList(t *testing.T) {
	all := many("", most)
	for i := range most {
		for j := i; j <= most; j++ {
			joins(t, all[:j], all[i:], all)
			clear(join(t, all[i:j], all[i:j]))
			clear(join(t, all[i:j], nil))
			clear(join(t, nil, all[i:j]))
			clear(join(t, all[:i], all[i:j]))
		}
	}
	if !slices.Equal(all, many("", most)) {
		t.Error("what was handed in was changed")
	}
}

// BK2: Meet and Trust.

func TestMeetAndTrust(t *testing.T) {
	b := meet(t, nil, "ann", api.Digest{1})
	if want := bookOf(contact("ann", api.Digest{1}, 1)); !slices.Equal(b, want) {
		t.Errorf("got %v, want %v", b, want)
	}
	meets(t, b, "ann", api.Digest{1}, b)
	b = meet(t, b, "ann", api.Digest{2})
	if want := bookOf(contact("ann", nothing, 2)); !slices.Equal(b, want) {
		t.Errorf("got %v, want %v", b, want)
	}
	meets(t, b, "ann", api.Digest{1}, b)
	b = trust(t, b, "ann", api.Digest{2})
	if want := bookOf(contact("ann", api.Digest{2}, 3)); !slices.Equal(b, want) {
		t.Errorf("got %v, want %v", b, want)
	}
	meets(t, b, "ann", api.Digest{1}, b)
	trusts(t, b, "ann", api.Digest{2}, b)
	b = trust(t, b, "ann", api.Digest{1})
	if want := bookOf(contact("ann", nothing, 4)); !slices.Equal(b, want) {
		t.Errorf("got %v, want %v", b, want)
	}
	meets(t, b, "ann", api.Digest{1}, b)
	trusts(t, b, "ann", api.Digest{1}, b)
	wantNeither(t, b, "Ann", api.Digest{1}, api.ErrSyntax)
	wantNeither(t, b, "ann", api.Digest{}, api.ErrFork)
}

// A name that the book has, at each level, at its beginning, in its middle and at its end, with its key and with another one.
func TestMeetAndTrustOfANameThatIsThere(t *testing.T) {
	met := map[int][2]api.Contact{ // by the level it had: with the same key, and with another one
		1: {one("ann", 1, 1), one("ann", 0, 2)},
		2: {one("ann", 0, 2), one("ann", 0, 2)},
		3: {one("ann", 1, 3), one("ann", 1, 3)},
		4: {one("ann", 0, 4), one("ann", 0, 4)},
	}
	trusted := map[int][2]api.Contact{
		1: {one("ann", 1, 3), one("ann", 2, 3)},
		2: {one("ann", 1, 3), one("ann", 2, 3)},
		3: {one("ann", 1, 3), one("ann", 0, 4)},
		4: {one("ann", 0, 4), one("ann", 0, 4)},
	}
	around := [][2][]api.Contact{
		{nil, nil}, {many("0", 3), nil}, {nil, many("x", 3)}, {many("ahead", 2), many("ann-", 4)}, {many("0", 39), nil}, {nil, many("x", 39)}, {many("0", 20), many("x", 19)},
	}
	for level := 1; level <= 4; level++ {
		for _, o := range around {
			b := joined(o[0], bookOf(one("ann", 1, level)), o[1])
			for i := range 2 {
				meets(t, b, "ann", key(1+i), joined(o[0], bookOf(met[level][i]), o[1]))
				trusts(t, b, "ann", key(1+i), joined(o[0], bookOf(trusted[level][i]), o[1]))
			}
		}
	}
}

// A name that the book has not, at each place of books of each length.
func TestMeetAndTrustOfANameThatIsNotThere(t *testing.T) {
	for n := range most {
		all := many("", n+1)
		for i := range n + 1 {
			b, name := without(all, i), all[i].Name
			meets(t, b, name, key(7), with(all, i, one(name, 7, 1)))
			trusts(t, b, name, key(7), with(all, i, one(name, 7, 3)))
		}
	}
}

// A book of 40 has room for no other name, but for those that it has.
func TestMeetAndTrustOfAFullBook(t *testing.T) {
	all := many("", 41)
	for i := range 41 {
		b := without(all, i)
		wantNeither(t, b, all[i].Name, key(7), api.ErrFull)
		for j := range 40 {
			meetsAndTrusts(t, b, b[j].Name, key(j))
			meetsAndTrusts(t, b, b[j].Name, key(j+1000))
		}
		wantNeither(t, b, "A", key(7), api.ErrSyntax)
		wantNeither(t, b, "a", nothing, api.ErrFork)
		wantNeither(t, b, all[(i+1)%41].Name, nothing, api.ErrFork)
	}
}

func TestMeetAndTrustOfNoName(t *testing.T) {
	for _, name := range noName() {
		for _, b := range [][]api.Contact{nil, bookOf(one("ann", 1, 1)), many("", 39), many("", 40)} {
			wantNeither(t, b, name, key(1), api.ErrSyntax)
			wantNeither(t, b, name, nothing, api.ErrSyntax)
		}
	}
	for n := range 100 {
		meetsAndTrusts(t, nil, strings.Repeat("a", n), key(1))
		meetsAndTrusts(t, many("", 3), strings.Repeat("9", n), key(1))
	}
	for letter := range 256 {
		meetsAndTrusts(t, many("", 3), "a"+string([]byte{byte(letter)})+"a", key(1))
	}
}

func TestMeetAndTrustOfNoKey(t *testing.T) {
	for _, b := range [][]api.Contact{nil, bookOf(one("ann", 1, 1)), bookOf(one("ann", 0, 2)), bookOf(one("ann", 1, 3)), bookOf(one("ann", 0, 4)), many("", 40)} {
		wantNeither(t, b, "ann", nothing, api.ErrFork)
		wantNeither(t, b, "bob", nothing, api.ErrFork)
	}
	for at := range 32 {
		var k api.Digest
		k[at] = 1
		meets(t, nil, "ann", k, bookOf(contact("ann", k, 1)))
		trusts(t, nil, "ann", k, bookOf(contact("ann", k, 3)))
	}
}

// What is wrong with the book comes ahead of what is wrong with the name or the key.
func TestMeetAndTrustOfAWrongBook(t *testing.T) {
	wrong := map[api.Errno][]api.Contact{
		api.ErrFull:   many("", 41),
		api.ErrSyntax: bookOf(one("Ann", 1, 1)),
		api.ErrTwice:  bookOf(one("ann", 1, 1), one("ann", 1, 1)),
		api.ErrRange:  bookOf(one("ann", 1, 5)),
		api.ErrFork:   bookOf(contact("ann", key(1), 2)),
	}
	for want, b := range wrong {
		for _, name := range append(noName(), "ann", "bob", "0") {
			wantNeither(t, b, name, key(1), want)
			wantNeither(t, b, name, nothing, want)
		}
	}
}

func TestMeetAndTrustOfEachSmallList(t *testing.T) {
	all := lists(2, one("b", 1, 1), one("b", 0, 2), one("b", 1, 3), one("b", 0, 4), one("c", 1, 1), contact("b", nothing, 3), one("b", 1, 5), one("B", 1, 1))
	for _, b := range all {
		for _, name := range []string{"", "B", "a", "b", "b-", "b0", "c", "d"} {
			for _, k := range []api.Digest{nothing, key(1), key(2)} {
				meetsAndTrusts(t, b, name, k)
			}
		}
	}
}

// Meet is Join with that contact alone at Level 1, Trust at Level 3.
func TestMeetAndTrustAreJoins(t *testing.T) {
	for seed := range 100 {
		b := some(seed, seed%30)
		for i := range 60 {
			name := fmt.Sprint("n-", i)
			meets(t, b, name, key(i%3), join(t, b, bookOf(one(name, i%3, 1))))
			trusts(t, b, name, key(i%3), join(t, b, bookOf(one(name, i%3, 3))))
		}
	}
}

// Who has heard the same knows the same: whomever one met and trusts first.
func TestMeetAndTrustInEachOrder(t *testing.T) {
	heard := []api.Contact{one("ann", 1, 1), one("ann", 2, 1), one("ann", 1, 3), one("bob", 1, 1), one("bob", 1, 1), one("cid", 1, 3), one("cid", 2, 3), one("dan", 3, 1), one("dan", 4, 1)}
	want := bookOf(one("ann", 1, 3), one("bob", 1, 1), one("cid", 0, 4), one("dan", 0, 2))
	for seed := range 300 {
		order := slices.Clone(heard)
		slices.SortFunc(order, func(c, d api.Contact) int {
			first, second := sha256.Sum256(fmt.Append(nil, seed, c)), sha256.Sum256(fmt.Append(nil, seed, d))
			return bytes.Compare(first[:], second[:])
		})
		var b []api.Contact
		for _, c := range order {
			if c.Level == 1 {
				b = meet(t, b, c.Name, c.Key)
			} else {
				b = trust(t, b, c.Name, c.Key)
			}
			checks(t, b, api.OK)
		}
		if !slices.Equal(b, want) {
			t.Errorf("heard %v: got %v, want %v", order, b, want)
		}
	}
}

func TestMeetAndTrustLeaveWhatTheyAreGiven(t *testing.T) {
	for n := range 43 {
		for i := range 43 {
			b := many("", n)
			for _, name := range []string{fmt.Sprintf("%05d", i), fmt.Sprintf("%05d-", i), "A"} {
				given := withRoom(b)
				book.Meet(given, name, key(i+1))
				book.Trust(given, name, key(i+1))
				book.Trust(given, name, nothing)
				if !slices.Equal(given[:n+room], withRoom(b)[:n+room]) {
					t.Errorf("Meet or Trust of %v and %q has changed it", b, name)
				}
			}
		}
	}
}

func TestMeetAndTrustTellFreshMemory(t *testing.T) {
	for n := range most {
		for i := range n + 1 {
			for _, name := range []string{fmt.Sprintf("%05d", i), fmt.Sprintf("%05d-", i)} {
				given := withRoom(many("", n))
				wantMet, wantTrusted := wantJoin(given, bookOf(one(name, 7, 1))), wantJoin(given, bookOf(one(name, 7, 3)))
				first, other := meet(t, given, name, key(7)), trust(t, given, name, key(7))
				met, trusted := meet(t, given, name, key(7)), trust(t, given, name, key(7))
				clear(first[:cap(first)])
				clear(other[:cap(other)])
				if !slices.Equal(given[:n+room], withRoom(many("", n))[:n+room]) {
					t.Errorf("Meet or Trust of %d contacts and %q shares its memory", n, name)
				}
				clear(given[:n+room])
				if !slices.Equal(met, wantMet) || !slices.Equal(trusted, wantTrusted) {
					t.Errorf("Meet or Trust of %d contacts and %q keeps what it was given", n, name)
				}
			}
		}
	}
}

// What was told of a wrong one changes nothing that is told later.
func TestBehindAnError(t *testing.T) {
	b := bookOf(one("ann", 1, 1), one("bob", 1, 3))
	for range 3 {
		wantNeither(t, b, "B", key(1), api.ErrSyntax)
		wantNeither(t, b, "bob", nothing, api.ErrFork)
		wantNoJoin(t, b, many("", 40), api.ErrFull)
		wantNoJoin(t, b, bookOf(one("bob", 1, 0)), api.ErrRange)
		checks(t, many("", 41), api.ErrFull)
		checks(t, b, api.OK)
		meets(t, b, "ann", key(2), bookOf(one("ann", 0, 2), one("bob", 1, 3)))
		trusts(t, b, "bob", key(2), bookOf(one("ann", 1, 1), one("bob", 0, 4)))
		joins(t, b, b, b)
	}
}

// The digest is told by a throw-away script of the same words.
func TestTold(t *testing.T) {
	var told strings.Builder
	write := func(b []api.Contact) {
		for _, c := range b {
			told.WriteString(fmt.Sprintf("%s %x %d\n", c.Name, c.Key, c.Level))
		}
		told.WriteString(".\n")
	}
	for seed := range 100 {
		a, b := some(seed, seed%20), some(seed+3, seed*7%20)
		name := fmt.Sprint("n-", seed*7%60)
		write(join(t, a, b))
		write(meet(t, a, name, key(seed%2)))
		write(trust(t, b, name, key(seed%2)))
	}
	sum := sha256.Sum256([]byte(told.String()))
	if got := hex.EncodeToString(sum[:]); got != "1d3e2c922e9cab91989ae13985213d55912d92734a4cb4c875a09473e6b24f3b" {
		t.Errorf("got a text of digest %s, which begins %.400q", got, told.String())
	}
}

// What books have told, asked side by side, is the same: nothing is kept from call to call.
func TestSideBySide(t *testing.T) {
	var group sync.WaitGroup
	for n := range 40 {
		a, b := some(n, n%20), some(n+60, n*7%20)
		want := wantJoin(a, b)
		group.Go(func() {
			for range 50 {
				both, err := book.Join(a, b)
				if err != nil || !slices.Equal(both, want) {
					t.Errorf("Join of %v and %v: got %v and %v, want %v", a, b, both, err, want)
				}
				met, err := book.Meet(a, "n-7", key(2))
				if err != nil || !slices.Equal(met, wantJoin(a, bookOf(one("n-7", 2, 1)))) {
					t.Errorf("Meet of %v: got %v and %v", a, met, err)
				}
				if err := book.Check(b); err != nil {
					t.Errorf("Check of %v: %v", b, err)
				}
			}
		})
	}
	group.Wait()
}
