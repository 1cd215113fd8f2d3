package skip

import (
	"iter"
	"maps"
	"math"
	"reflect"
	"slices"
	"strconv"
	"strings"
	"testing"
	"unsafe"

	"copyhold/api"
)

// numberMaker: numbers that look like chance, the same ones in each run.
type numberMaker uint64

func (m *numberMaker) next() uint32 {
	*m = *m*6364136223846793005 + 1442695040888963407
	return uint32(*m >> 32)
}

// below: a number from 0 on, below n.
func (m *numberMaker) below(n int) int { return int(m.next()) % n }

// height: half of the towers are 1 high, half of the others 2, and so on.
func (m *numberMaker) height() int {
	height := 1
	for height < api.MaxHeight && m.below(2) == 0 {
		height++
	}
	return height
}

// levels: on both sides of each edge, and far off.
func levels() []int {
	ns := []int{math.MinInt, math.MinInt + 1, -1 << 40, -12, -2}
	for level := -1; level <= 13; level++ {
		ns = append(ns, level)
	}
	return append(ns, 24, 1<<40, math.MaxInt-1, math.MaxInt)
}

// held: the height of a tower that is set with such a height, by the chapter's words.
func held(height int) int {
	if height < 1 {
		return 1
	}
	if height > 12 {
		return 12
	}
	return height
}

// row: what the plain list has of a key.
type row[V any] struct {
	key    string
	v      V
	height int
}

// plain: what a list should have, rising by keys, each gone through from the first one on.
type plain[V any] struct {
	rows []row[V]
	same func(a, b V) bool // are these one value?
}

// plainOf: one of values that can be held against each other.
func plainOf[V comparable]() *plain[V] {
	return &plain[V]{same: func(a, b V) bool { return a == b }}
}

func (p *plain[V]) set(key string, v V, height int) bool {
	at := 0
	for at < len(p.rows) && p.rows[at].key < key {
		at++
	}
	if at < len(p.rows) && p.rows[at].key == key {
		p.rows[at].v = v
		return false
	}
	p.rows = slices.Insert(p.rows, at, row[V]{key, v, held(height)})
	return true
}

// from: those that are not below key.
func (p *plain[V]) from(key string) []row[V] {
	for at := range p.rows {
		if p.rows[at].key >= key {
			return p.rows[at:]
		}
	}
	return nil
}

// behind: those that are above key.
func (p *plain[V]) behind(key string) []row[V] {
	for at := range p.rows {
		if p.rows[at].key > key {
			return p.rows[at:]
		}
	}
	return nil
}

func (p *plain[V]) keys() []string {
	var keys []string
	for _, r := range p.rows {
		keys = append(keys, r.key)
	}
	return keys
}

func (p *plain[V]) towers() []int {
	var heights []int
	for _, r := range p.rows {
		heights = append(heights, r.height)
	}
	return heights
}

// row: by the chapter's words the keys whose towers are higher than the level.
func (p *plain[V]) row(level int) []string {
	var keys []string
	for _, r := range p.rows {
		if level >= 0 && r.height > level {
			keys = append(keys, r.key)
		}
	}
	return keys
}

// justBelow: texts below the key, with few others or none between.
func justBelow(key string) []string {
	if key == "" {
		return nil
	}
	last := len(key) - 1
	if key[last] == 0 {
		return []string{key[:last]}
	}
	return []string{key[:last], key[:last] + string([]byte{key[last] - 1}), key[:last] + string([]byte{key[last] - 1}) + "\xff\xff\xff"}
}

// justAbove: texts above the key; no text lies between it and the first of them.
func justAbove(key string) []string { return []string{key + "\x00", key + "\x01", key + "\xff"} }

// around: each of the keys, just below and just above it, the least text, and such as are beyond all.
func around(keys []string) []string {
	out := []string{"", "\x00", "m", "\xff", strings.Repeat("\xff", 100)}
	for _, key := range keys {
		out = append(append(append(out, key), justBelow(key)...), justAbove(key)...)
	}
	slices.Sort(out)
	return slices.Compact(out)
}

// manyKeys: the empty one, beginnings of one another, bytes 0 and above 127, and long ones; in order.
func manyKeys() []string {
	keys := []string{"", "\x00", "\x00\x00", "\x00\x01", "\x00\xff", "\x01", "a", "a\x00", "a\x00b", "a\x01", "aa", "aaa", "aab", "ab", "abc", "abd", "a\x7f", "a\x80", "a\xff", "b",
		"z", "\x7f", "\x7f\xff", "\x80", "\x80\x00", "\x81", "é", "ü", "\xc3", "\xff", "\xff\x00", "\xff\xff", strings.Repeat("a", 64), strings.Repeat("a", 65), strings.Repeat("\xff", 80), strings.Repeat("\x00", 80)}
	slices.Sort(keys)
	return keys
}

// wantKey: what Get, Seek, After and From tell of a key.
func wantKey[V any](t *testing.T, what string, l *List[V], p *plain[V], key string) {
	t.Helper()
	var zero V
	from, behind := p.from(key), p.behind(key)
	v, ok := l.Get(key)
	want, is := zero, len(from) > 0 && from[0].key == key
	if is {
		want = from[0].v
	}
	if ok != is || !p.same(v, want) {
		t.Errorf("%s: Get(%q): %v, %v; want %v, %v", what, key, v, ok, want, is)
	}
	k, v, ok := l.Seek(key)
	wantTold(t, what+": Seek of "+strconv.Quote(key), p, from, k, v, ok)
	k, v, ok = l.After(key)
	wantTold(t, what+": After "+strconv.Quote(key), p, behind, k, v, ok)
}

// wantTold: the first of some rows, or nothing, if there is none.
func wantTold[V any](t *testing.T, what string, p *plain[V], rows []row[V], k string, v V, ok bool) {
	t.Helper()
	var want row[V]
	if len(rows) > 0 {
		want = rows[0]
	}
	if k != want.key || !p.same(v, want.v) || ok != (len(rows) > 0) {
		t.Errorf("%s: %q, %v, %v; want %q, %v, %v", what, k, v, ok, want.key, want.v, len(rows) > 0)
	}
}

// wantFrom: so many rows, one by one, told by one going over.
func wantFrom[V any](t *testing.T, what string, seq iter.Seq2[string, V], p *plain[V], want []row[V]) {
	t.Helper()
	at := 0
	for k, v := range seq {
		if at >= len(want) || k != want[at].key || !p.same(v, want[at].v) {
			t.Errorf("%s: %q, %v is told as the one of number %d of %d", what, k, v, at, len(want))
			return
		}
		at++
	}
	if at != len(want) {
		t.Errorf("%s: %d are told; want %d", what, at, len(want))
	}
}

// wantRows: how many there are, and where their towers stand.
func wantRows[V any](t *testing.T, what string, l *List[V], p *plain[V]) {
	t.Helper()
	if got := l.Len(); got != len(p.rows) {
		t.Errorf("%s: Len: %d; want %d", what, got, len(p.rows))
	}
	if got := l.Towers(); !slices.Equal(got, p.towers()) {
		t.Errorf("%s: Towers: %v; want %v", what, got, p.towers())
	}
	for _, level := range levels() {
		if got := l.Row(level); !slices.Equal(got, p.row(level)) {
			t.Errorf("%s: Row(%d): %q; want %q", what, level, got, p.row(level))
		}
	}
}

// wantList: all that is told is what the plain list has.
func wantList[V any](t *testing.T, what string, l *List[V], p *plain[V]) {
	t.Helper()
	wantRows(t, what, l, p)
	for _, key := range around(p.keys()) {
		wantKey(t, what, l, p, key)
		wantFrom(t, what+": From "+strconv.Quote(key), l.From(key), p, p.from(key))
	}
}

// set: both lists are handed the same, and the list says what the plain one does.
func set[V any](t *testing.T, l *List[V], p *plain[V], key string, v V, height int) {
	t.Helper()
	if got, want := l.Set(key, v, height), p.set(key, v, height); got != want {
		t.Errorf("Set(%q, %v, %d): %v; want %v", key, v, height, got, want)
	}
}

// letters: a list of the keys that are told, with values of their own, and the plain one.
func letters(t *testing.T, keys ...string) (*List[string], *plain[string]) {
	t.Helper()
	l, p := New[string](), plainOf[string]()
	for i, key := range keys {
		set(t, l, p, key, "v"+key, 1+i%3)
	}
	return l, p
}

// The chapter's examples

func TestExamples(t *testing.T) {
	l := New[int]()
	sets := []bool{l.Set("b", 1, 2), l.Set("a", 2, 0), l.Set("c", 3, 99), l.Set("b", 4, 7)}
	if !slices.Equal(sets, []bool{true, true, true, false}) {
		t.Errorf("the four Sets: %v", sets)
	}
	if v, ok := l.Get("b"); v != 4 || !ok {
		t.Errorf("Get of b: %d, %v", v, ok)
	}
	if v, ok := l.Get("d"); v != 0 || ok {
		t.Errorf("Get of d: %d, %v", v, ok)
	}
	if k, v, ok := l.Seek("ab"); k != "b" || v != 4 || !ok {
		t.Errorf("Seek of ab: %q, %d, %v", k, v, ok)
	}
	if k, v, ok := l.After("b"); k != "c" || v != 3 || !ok {
		t.Errorf("After b: %q, %d, %v", k, v, ok)
	}
	if k, v, ok := l.Seek("d"); k != "" || v != 0 || ok {
		t.Errorf("Seek of d: %q, %d, %v", k, v, ok)
	}
	for level, want := range map[int]string{0: "a b c", 1: "b c", 2: "c", 11: "c", 12: ""} {
		if got := strings.Join(l.Row(level), " "); got != want {
			t.Errorf("Row(%d): %s; want %s", level, got, want)
		}
	}
	if got := l.Towers(); !slices.Equal(got, []int{1, 2, 12}) {
		t.Errorf("Towers: %v", got)
	}
}

// P8.1

func TestNewHasNoKeys(t *testing.T) {
	l := New[int]()
	if l == nil {
		t.Fatal("New: nil")
	}
	wantList(t, "a new one", l, plainOf[int]())
}

func TestNewOnesAreListsOfTheirOwn(t *testing.T) {
	a, b := New[int](), New[int]()
	p, q := plainOf[int](), plainOf[int]()
	set(t, a, p, "k", 1, 3)
	wantList(t, "the one", a, p)
	wantList(t, "the other", b, q)
	set(t, b, q, "m", 2, 2)
	wantList(t, "the one", a, p)
	wantList(t, "the other", b, q)
}

func TestSetOfOneKey(t *testing.T) {
	for _, key := range manyKeys() {
		l, p := New[int](), plainOf[int]()
		set(t, l, p, key, 7, 2)
		wantList(t, "one key", l, p)
	}
}

func TestSetOfManyKeysInOrderAndAgainst(t *testing.T) {
	up := manyKeys()
	down := slices.Clone(up)
	slices.Reverse(down)
	for _, keys := range [][]string{up, down} {
		l, p := New[int](), plainOf[int]()
		for i, key := range keys {
			set(t, l, p, key, i, 1+i%12)
			wantRows(t, "so far", l, p)
			wantKey(t, "so far", l, p, key)
		}
		wantList(t, "many keys", l, p)
	}
}

func TestSetHoldsTheHeight(t *testing.T) {
	for _, height := range levels() {
		l, p := New[int](), plainOf[int]()
		for i, key := range []string{"b", "c", "a"} {
			set(t, l, p, key, i, height)
		}
		want := max(1, min(height, 12))
		if got := l.Towers(); !slices.Equal(got, []int{want, want, want}) {
			t.Errorf("Towers of height %d: %v; want %d", height, got, want)
		}
		wantList(t, "height "+strconv.Itoa(height), l, p)
	}
}

func TestSetAgainKeepsTheTower(t *testing.T) {
	for _, first := range levels() {
		for _, second := range levels() {
			l, p := New[int](), plainOf[int]()
			set(t, l, p, "a", 1, 2)
			set(t, l, p, "b", 2, first)
			set(t, l, p, "c", 3, 1)
			set(t, l, p, "b", 4, second)
			if v, ok := l.Get("b"); v != 4 || !ok {
				t.Errorf("Get: %d, %v; want the value that was set last", v, ok)
			}
			if got := l.Towers(); !slices.Equal(got, []int{2, held(first), 1}) {
				t.Errorf("Towers of %d, set again with %d: %v", first, second, got)
			}
			wantRows(t, "set again", l, p)
		}
	}
}

func TestSetAgainOfEachKey(t *testing.T) {
	l, p := New[int](), plainOf[int]()
	keys := manyKeys()
	for i, key := range keys {
		set(t, l, p, key, i, 1+i%5)
	}
	for round := 1; round <= 3; round++ {
		for i, key := range keys {
			set(t, l, p, key, round*1000+i, 12-i%12)
		}
		wantList(t, "set again", l, p)
	}
	for _, key := range keys {
		set(t, l, p, key, 0, 1)
	}
	wantList(t, "set to the zero value", l, p)
}

func TestKeysThatAreNearOneAnotherAreOthers(t *testing.T) {
	for _, key := range manyKeys() {
		l, p := New[int](), plainOf[int]()
		set(t, l, p, key, 1, 3)
		for i, near := range append(justBelow(key), justAbove(key)...) {
			if v, ok := l.Get(near); v != 0 || ok {
				t.Errorf("Get(%q) in a list of %q: %d, %v; want none", near, key, v, ok)
			}
			set(t, l, p, near, 2+i, 1+i)
			wantList(t, "with one that is near", l, p)
		}
	}
}

// one: a value that can't be compared with others of its kind by ==, in part.
type one struct {
	name string
	ns   []int
	next *one
}

func TestValuesOfSeveralTypes(t *testing.T) {
	wantValues(t, "ints", func(a, b int) bool { return a == b }, 1, 0, -5, math.MaxInt, 1)
	wantValues(t, "texts", func(a, b string) bool { return a == b }, "x", "", "\xff\x00", "x")
	wantValues(t, "bools", func(a, b bool) bool { return a == b }, true, false, true)
	wantValues(t, "bytes", func(a, b byte) bool { return a == b }, 0, 255, 128, 0)
	wantValues(t, "nothings", func(a, b struct{}) bool { return true }, struct{}{}, struct{}{})
	wantValues(t, "arrays", func(a, b [3]int) bool { return a == b }, [3]int{1, 2, 3}, [3]int{}, [3]int{3})
	wantValues(t, "slices", slices.Equal[[]int], []int{1, 2}, nil, []int{3}, []int{1, 2})
	wantValues(t, "maps", maps.Equal[map[string]int, map[string]int], map[string]int{"a": 1}, nil, map[string]int{"b": 2})
	wantValues(t, "entries", func(a, b api.Entry) bool { return a == b }, api.Entry{Key: "a", Value: "b", Seq: 3}, api.Entry{}, api.Entry{Gone: true})
	wantValues(t, "structs", func(a, b one) bool { return a.name == b.name && slices.Equal(a.ns, b.ns) && a.next == b.next }, one{name: "a", ns: []int{4}}, one{}, one{next: &one{}})
	wantValues(t, "pointers", func(a, b *one) bool { return a == b }, &one{}, nil, &one{name: "b"})
	wantValues(t, "errors", func(a, b error) bool { return a == b }, strconv.ErrRange, nil, strconv.ErrSyntax)
	wantValues(t, "anything", func(a, b any) bool { return a == b }, any(1), nil, any("x"), any(api.ErrArg))
	wantValues(t, "functions", func(a, b func() int) bool { return (a == nil) == (b == nil) && (a == nil || a() == b()) }, func() int { return 4 }, nil, func() int { return 5 })
	inner, _ := letters(t, "a", "b")
	wantValues(t, "lists", func(a, b *List[string]) bool { return a == b }, inner, nil, New[string]())
}

func wantValues[V any](t *testing.T, what string, same func(a, b V) bool, vs ...V) {
	t.Helper()
	l, p := New[V](), &plain[V]{same: same}
	wantList(t, what+", none", l, p)
	for i, v := range vs {
		set(t, l, p, "k"+strconv.Itoa(i*7%5), v, i)
		wantList(t, what, l, p)
	}
	for _, v := range vs {
		set(t, l, p, "k0", v, 5)
		wantList(t, what+", again", l, p)
	}
}

// P8.2

func TestSeekAndAfterAroundEachKey(t *testing.T) {
	l, p := New[int](), plainOf[int]()
	for i, key := range []string{"d", "b", "f", "bb", "b\x00"} {
		set(t, l, p, key, i+1, i+1)
	}
	for _, c := range []struct {
		key, seek, after string
	}{{"", "b", "b"}, {"a", "b", "b"}, {"b", "b", "b\x00"}, {"b\x00", "b\x00", "bb"}, {"b\x00\x00", "bb", "bb"}, {"ba\xff", "bb", "bb"}, {"bb", "bb", "d"}, {"bb\x00", "d", "d"}, {"c\xff", "d", "d"},
		{"d", "d", "f"}, {"d\x00", "f", "f"}, {"f", "f", ""}, {"f\x00", "", ""}, {"g", "", ""}, {"\xff", "", ""}} {
		k, _, ok := l.Seek(c.key)
		if k != c.seek || ok != (c.seek != "") {
			t.Errorf("Seek(%q): %q, %v; want %q", c.key, k, ok, c.seek)
		}
		k, _, ok = l.After(c.key)
		if k != c.after || ok != (c.after != "") {
			t.Errorf("After(%q): %q, %v; want %q", c.key, k, ok, c.after)
		}
	}
	wantList(t, "five keys", l, p)
}

func TestTheEmptyKeyIsOne(t *testing.T) {
	l, p := New[int](), plainOf[int]()
	set(t, l, p, "", 5, 4)
	if k, v, ok := l.Seek(""); k != "" || v != 5 || !ok {
		t.Errorf("Seek: %q, %d, %v; want the empty key, 5, true", k, v, ok)
	}
	if k, v, ok := l.After(""); k != "" || v != 0 || ok {
		t.Errorf("After: %q, %d, %v; want nothing", k, v, ok)
	}
	set(t, l, p, "a", 6, 1)
	wantList(t, "the empty key and another", l, p)
}

func TestAfterGoesThroughAll(t *testing.T) {
	l, p := letters(t, manyKeys()...)
	var got []string
	for k, _, ok := l.Seek(""); ok; k, _, ok = l.After(k) {
		got = append(got, k)
	}
	if !slices.Equal(got, p.keys()) {
		t.Errorf("one after the other: %q; want %q", got, p.keys())
	}
}

func TestFromLeftEarlyAndGoneOverAgain(t *testing.T) {
	l, p := letters(t, "d", "b", "f", "a", "c")
	for _, key := range around(p.keys()) {
		seq := l.From(key)
		want := p.from(key)
		for most := 1; most <= len(want); most++ {
			at := 0
			for k := range seq {
				if k != want[at].key {
					t.Errorf("From(%q), left behind %d: %q", key, most, k)
				}
				if at++; at == most {
					break
				}
			}
			if at != most {
				t.Errorf("From(%q): %d; want %d", key, at, most)
			}
			wantFrom(t, "gone over again", seq, p, want)
		}
		wantFrom(t, "gone over again", seq, p, want)
	}
}

func TestFromAsksNoMoreWhenLeft(t *testing.T) {
	l, _ := letters(t, "a", "b", "c")
	for most := 1; most <= 3; most++ {
		told := 0
		l.From("a")(func(string, string) bool {
			told++
			return told < most
		})
		if told != most {
			t.Errorf("left at %d: %d are told", most, told)
		}
	}
}

func TestFromLeftByAReturnOrAPanicOrALabel(t *testing.T) {
	l, p := letters(t, "a", "b", "c")
	seq := l.From("")
	first := func() string {
		for k := range seq {
			return k
		}
		return "none"
	}
	if got := first(); got != "a" {
		t.Errorf("returned: %q", got)
	}
	func() {
		defer func() {
			if got := recover(); got != "b" {
				t.Errorf("a panic of the one who goes over: %v; want it handed on", got)
			}
		}()
		for k := range seq {
			if k == "b" {
				panic(k)
			}
		}
	}()
	var got []string
outer:
	for k := range seq {
		for m := range seq {
			got = append(got, k+m)
			if m == "b" && k == "b" {
				break outer
			}
			if m == "b" {
				continue outer
			}
		}
	}
	if !slices.Equal(got, []string{"aa", "ab", "ba", "bb"}) {
		t.Errorf("labels: %q", got)
	}
	wantList(t, "behind all that", l, p)
}

func TestFromGoneOverTwiceAtOnce(t *testing.T) {
	l, p := letters(t, "c", "a", "d", "b")
	seq := l.From("b")
	var got, want []string
	for k := range seq {
		for m := range seq {
			got = append(got, k+m)
		}
	}
	for _, r := range p.from("b") {
		for _, s := range p.from("b") {
			want = append(want, r.key+s.key)
		}
	}
	if !slices.Equal(got, want) {
		t.Errorf("one within the other: %q; want %q", got, want)
	}
}

func TestFromPulledTwiceAtOnceWithKeysSetMeanwhile(t *testing.T) {
	l, p := letters(t, "c", "g")
	seq := l.From("b")
	one, stopOne := iter.Pull2(seq)
	defer stopOne()
	two, stopTwo := iter.Pull2(seq)
	defer stopTwo()
	pull := func(what string, next func() (string, string, bool), want string) {
		t.Helper()
		k, v, ok := next()
		if k != want || ok != (want != "") || ok && v != "v"+want {
			t.Errorf("%s: %q, %q, %v; want %q", what, k, v, ok, want)
		}
	}
	pull("the first", one, "c")
	set(t, l, p, "b", "vb", 2)
	set(t, l, p, "a", "va", 12)
	set(t, l, p, "d", "vd", 1)
	pull("the second", two, "b")
	pull("the first", one, "d")
	set(t, l, p, "cc", "vcc", 5)
	pull("the second", two, "c")
	pull("the second", two, "cc")
	pull("the first", one, "g")
	set(t, l, p, "h", "vh", 3)
	pull("the first", one, "h")
	pull("the first", one, "")
	set(t, l, p, "i", "vi", 3)
	pull("the first, ended", one, "")
	pull("the second", two, "d")
	stopTwo()
	pull("the second, left", two, "")
	wantList(t, "behind all that", l, p)
}

func TestFromSeesKeysThatWereSetBehindTheCall(t *testing.T) {
	for _, l := range []*List[string]{New[string](), {}} {
		p := plainOf[string]()
		seq := l.From("b")
		wantFrom(t, "no key", seq, p, nil)
		for i, key := range []string{"d", "a", "b", "c", "b\x00", "az"} {
			set(t, l, p, key, "v"+key, 12-i)
			wantFrom(t, "set behind the call of From", seq, p, p.from("b"))
			set(t, l, p, "d", "v"+strconv.Itoa(i), 1)
			wantFrom(t, "another value", seq, p, p.from("b"))
		}
	}
}

// fromWhileSet goes over a list of b, d and f from b on; when the key of turn is told, others are set.
func fromWhileSet(t *testing.T, turn string, height int, keys ...string) (told, values []string) {
	t.Helper()
	l, p := letters(t, "d", "b", "f")
	for k, v := range l.From("b") {
		told, values = append(told, k), append(values, v)
		if k == turn {
			for _, key := range keys {
				set(t, l, p, key, "new "+key, height)
			}
		}
		wantRows(t, "within From", l, p)
	}
	wantList(t, "behind From", l, p)
	return told, values
}

func TestFromWithKeysSetMeanwhile(t *testing.T) {
	for _, c := range []struct{ turn, keys, want string }{
		{"b", "c", "b c d f"},
		{"b", "a", "b d f"},
		{"b", "aa bb", "b bb d f"},
		{"b", "cc c bc", "b bc c cc d f"},
		{"d", "c", "b d f"},
		{"d", "a c cz", "b d f"},
		{"d", "e", "b d e f"},
		{"d", "d\x00", "b d d\x00 f"},
		{"d", "c\xff d\x00\x00 e\xff f\x00", "b d d\x00\x00 e\xff f f\x00"},
		{"f", "g", "b d f g"},
		{"f", "a c e", "b d f"},
		{"f", "e\xff f\x00 \xff", "b d f f\x00 \xff"},
		{"none", "a c e", "b d f"},
	} {
		for height := 1; height <= 12; height++ {
			told, _ := fromWhileSet(t, c.turn, height, strings.Fields(c.keys)...)
			if got := strings.Join(told, " "); got != c.want {
				t.Errorf("set %q at %s with height %d: %q; want %q", c.keys, c.turn, height, got, c.want)
			}
		}
	}
}

func TestFromWithValuesSetMeanwhile(t *testing.T) {
	for _, c := range []struct{ turn, keys, want string }{
		{"b", "d", "vb,new d,vf"},
		{"b", "b", "vb,vd,vf"},
		{"b", "b d f", "vb,new d,new f"},
		{"d", "b d", "vb,vd,vf"},
		{"d", "f", "vb,vd,new f"},
		{"d", "d e", "vb,vd,new e,vf"},
		{"f", "b d f", "vb,vd,vf"},
	} {
		_, values := fromWhileSet(t, c.turn, 4, strings.Fields(c.keys)...)
		if got := strings.Join(values, ","); got != c.want {
			t.Errorf("set %q at %s: %s; want %s", c.keys, c.turn, got, c.want)
		}
	}
}

// So many keys that what the list keeps must move while it is gone over.
func TestFromWithVeryManyKeysSetMeanwhile(t *testing.T) {
	l, p := letters(t, "b", "m", "z")
	var told []row[string]
	for k, v := range l.From("b") {
		told = append(told, row[string]{key: k, v: v})
		if k == "b" {
			for i := range 3000 {
				set(t, l, p, strconv.Itoa(10000+i), "below", 1+i%4)
				set(t, l, p, "n"+strconv.Itoa(10000+i*7%3000), "above", 1+i%5)
			}
			set(t, l, p, "m", "new m", 1)
			set(t, l, p, "z", "new z", 1)
		}
	}
	want := p.from("b")
	if len(told) != len(want) || len(told) != 3003 {
		t.Fatalf("told: %d; want %d", len(told), len(want))
	}
	for i, r := range want {
		if told[i].key != r.key || told[i].v != r.v {
			t.Errorf("told as the one of number %d: %q, %q; want %q, %q", i, told[i].key, told[i].v, r.key, r.v)
		}
	}
	wantRows(t, "behind From", l, p)
}

func TestFromGoesOnAsLongAsKeysAreSetAhead(t *testing.T) {
	l := New[int]()
	l.Set("k", 0, 1)
	told := 0
	for k, v := range l.From("") {
		if v != told {
			t.Errorf("%q has %d; want %d", k, v, told)
		}
		if told++; told < 500 {
			l.Set(k+"\x00", told, 1+told%12)
		}
	}
	if told != 500 || l.Len() != 500 {
		t.Errorf("told: %d, there: %d; want 500", told, l.Len())
	}
}

// P8.3

func TestRowsAgainstTowers(t *testing.T) {
	keys := manyKeys()
	for salt := range 12 {
		l, p := New[int](), plainOf[int]()
		for i := range keys {
			key := keys[(i*7+salt)%len(keys)]
			set(t, l, p, key, i, (i*i+salt)%15-1)
		}
		heights, all := l.Towers(), l.Row(0)
		if len(heights) != l.Len() || !slices.Equal(all, keys) {
			t.Errorf("%d towers, row 0 is %q", len(heights), all)
		}
		for _, level := range levels() {
			var want []string
			for i, height := range heights {
				if level >= 0 && level < height {
					want = append(want, all[i])
				}
			}
			if got := l.Row(level); !slices.Equal(got, want) {
				t.Errorf("Row(%d): %q; want %q", level, got, want)
			}
		}
		wantRows(t, "towers of all heights", l, p)
	}
}

func TestLenCountsKeysAndNotSets(t *testing.T) {
	l := New[int]()
	for round := range 3 {
		for i := range 300 {
			l.Set(strconv.Itoa(i), round, 1+i%12)
			if want := max(i+1, min(round, 1)*300); l.Len() != want || len(l.Towers()) != want {
				t.Fatalf("round %d, %d: Len %d, %d towers; want %d", round, i, l.Len(), len(l.Towers()), want)
			}
		}
	}
}

func TestANilListHasNothing(t *testing.T) {
	wantNilList[int](t, 7)
	wantNilList(t, "x")
	wantNilList(t, []int{1})
	wantNilList(t, api.Entry{Key: "a"})
}

func wantNilList[V any](t *testing.T, v V) {
	t.Helper()
	var l *List[V]
	p := &plain[V]{same: func(a, b V) bool { return reflect.DeepEqual(a, b) }}
	for _, key := range manyKeys() {
		for _, height := range levels() {
			if l.Set(key, v, height) {
				t.Errorf("Set(%q, %v, %d) of a nil list: true", key, v, height)
			}
		}
	}
	wantList(t, "a nil list", l, p)
	for _, key := range manyKeys() {
		wantKey(t, "a nil list", l, p, key)
		seq := l.From(key)
		if seq == nil {
			t.Fatalf("From(%q) of a nil list: nil, which can't be ranged over", key)
		}
		wantFrom(t, "a nil list", seq, p, nil)
		wantFrom(t, "a nil list, again", seq, p, nil)
	}
}

func TestTheZeroListIsOneThatNewMade(t *testing.T) {
	var empty List[int]
	wantList(t, "the zero List", &empty, plainOf[int]())
	wantList(t, "another zero List", new(List[int]), plainOf[int]())
	var l List[int]
	p := plainOf[int]()
	made := New[int]()
	for i, key := range manyKeys() {
		set(t, &l, p, key, i, i%14)
		made.Set(key, i, i%14)
		wantRows(t, "the zero List", &l, p)
	}
	wantList(t, "the zero List", &l, p)
	wantList(t, "one that New made", made, p)
	var within struct{ List[string] }
	within.Set("b", "x", 2)
	if k, v, ok := within.Seek(""); k != "b" || v != "x" || !ok {
		t.Errorf("a zero List within another thing: %q, %q, %v", k, v, ok)
	}
}

// shares: does a text stand in the memory of another one?
func shares(text, in string) bool {
	if text == "" || in == "" {
		return false
	}
	begin, at := uintptr(unsafe.Pointer(unsafe.StringData(in))), uintptr(unsafe.Pointer(unsafe.StringData(text)))
	return at < begin+uintptr(len(in)) && begin < at+uintptr(len(text))
}

func TestKeysAreKeptInMemoryOfTheirOwn(t *testing.T) {
	bytes := []byte("abcabd")
	all := unsafe.String(&bytes[0], len(bytes))
	l, p := New[int](), plainOf[int]()
	l.Set(all[:3], 1, 2)
	l.Set(all[3:], 2, 1)
	seq := l.From(all[:3])
	copy(bytes, "xyzxyy")
	p.set("abc", 1, 2)
	p.set("abd", 2, 1)
	wantList(t, "what was handed in is another text", l, p)
	wantFrom(t, "what was handed in is another text", seq, p, p.from("abc"))
	copy(bytes, "abcabe")
	if l.Set(all[:3], 3, 7) {
		t.Errorf("set again: true")
	}
	copy(bytes, "qqqqqq")
	p.set("abc", 3, 7)
	wantList(t, "set again", l, p)
}

// toldKeys: all texts that are told of a list in one way or another.
func toldKeys(l *List[string]) []string {
	var keys []string
	for level := range 12 {
		keys = append(keys, l.Row(level)...)
	}
	for k := range l.From("") {
		keys = append(keys, k)
	}
	for _, probe := range []string{"", "b", "bb"} {
		k, _, _ := l.Seek(probe)
		m, _, _ := l.After(probe)
		keys = append(keys, k, m)
	}
	return keys
}

func TestKeysAreToldInMemoryOfTheirOwn(t *testing.T) {
	l, _ := letters(t, "aaaa", "bbbb", "cccc", "dddd")
	told := append(toldKeys(l), toldKeys(l)...)
	for i, a := range told {
		for _, b := range told[:i] {
			if shares(a, b) {
				t.Fatalf("%q is told twice in one memory", a)
			}
		}
	}
	handed := strings.Clone("eeee")
	l.Set(handed, "", 2)
	for _, k := range toldKeys(l) {
		if shares(k, handed) {
			t.Errorf("%q is told in the memory that was handed in", k)
		}
	}
}

func TestListsAreToldInMemoryOfTheirOwn(t *testing.T) {
	l, p := letters(t, "d", "b", "f", "a")
	for round := range 3 {
		for _, level := range levels() {
			spoilTexts(l.Row(level))
		}
		heights := l.Towers()
		whole := heights[:cap(heights)]
		for i := range whole {
			whole[i] = -99
		}
		wantList(t, "what was told is spoiled", l, p)
		set(t, l, p, "k"+strconv.Itoa(round), "new", 5)
	}
	row, again := l.Row(0), l.Row(0)
	spoilTexts(row)
	if !slices.Equal(again, p.keys()) {
		t.Errorf("Row(0), with another one spoiled: %q", again)
	}
}

// spoilTexts: a list, with its spare room, has other texts.
func spoilTexts(list []string) {
	whole := list[:cap(list)]
	for i := range whole {
		whole[i] = "spoiled"
	}
}

func TestWhatWasToldStays(t *testing.T) {
	l, p := letters(t, "d", "b", "f")
	row, heights := l.Row(0), l.Towers()
	for i := range 200 {
		set(t, l, p, "b"+strconv.Itoa(i), "new", 1+i%12)
		set(t, l, p, "d", "v"+strconv.Itoa(i), 3)
	}
	if !slices.Equal(row, []string{"b", "d", "f"}) || !slices.Equal(heights, []int{2, 1, 3}) {
		t.Errorf("told ahead of the Sets: %q, %v", row, heights)
	}
	wantList(t, "behind the Sets", l, p)
}

func TestAskingChangesNothing(t *testing.T) {
	l, p := letters(t, manyKeys()...)
	for range 3 {
		for _, key := range around(manyKeys()) {
			l.Get(key)
			l.Seek(key)
			l.After(key)
			for range l.From(key) {
				break
			}
		}
		for _, level := range levels() {
			l.Row(level)
		}
		wantRows(t, "behind many questions", l, p)
	}
	wantList(t, "behind many questions", l, p)
}

// P8.4

func TestRowZeroHasAllAndEachRowIsAPartOfTheOneBelow(t *testing.T) {
	maker := numberMaker(84)
	for range 40 {
		l, p := New[int](), plainOf[int]()
		for i := range 1 + maker.below(80) {
			set(t, l, p, strconv.Itoa(maker.below(60)), i, maker.below(16)-1)
		}
		if got := l.Row(0); !slices.Equal(got, p.keys()) {
			t.Errorf("Row(0): %q; want all: %q", got, p.keys())
		}
		for level := 1; level <= 11; level++ {
			below := l.Row(level - 1)
			for _, key := range l.Row(level) {
				if !slices.Contains(below, key) {
					t.Errorf("%q is in row %d, and not in the one below", key, level)
				}
			}
		}
	}
}

// sameTold: lists that tell the same of keys and values.
func sameTold(t *testing.T, what string, a, b *List[int], keys []string) {
	t.Helper()
	if a.Len() != b.Len() || !slices.Equal(a.Row(0), b.Row(0)) {
		t.Errorf("%s: %q; want %q", what, a.Row(0), b.Row(0))
	}
	p := plainOf[int]()
	for k, v := range b.From("") {
		p.set(k, v, 1)
	}
	for _, key := range around(keys) {
		wantKey(t, what, a, p, key)
		wantKey(t, what, b, p, key)
		wantFrom(t, what, a.From(key), p, p.from(key))
		wantFrom(t, what, b.From(key), p, p.from(key))
	}
}

func TestOtherHeightsTellTheSame(t *testing.T) {
	maker := numberMaker(12)
	keys := manyKeys()
	heights := []func(i int) int{
		func(int) int { return 1 },
		func(int) int { return 12 },
		func(int) int { return math.MinInt },
		func(int) int { return math.MaxInt },
		func(i int) int { return i % 14 },
		func(i int) int { return 12 - i%12 },
		func(int) int { return maker.height() },
		func(int) int { return int(maker.next()) - 1<<31 },
	}
	for round := range 6 {
		var order []int
		for range 20 * (round + 1) {
			order = append(order, maker.below(len(keys)))
		}
		var lists []*List[int]
		var sets []string
		for _, height := range heights {
			l := New[int]()
			var told []byte
			for i, at := range order {
				told = strconv.AppendBool(told, l.Set(keys[at], i, height(i)))
			}
			lists, sets = append(lists, l), append(sets, string(told))
		}
		for i, l := range lists {
			if sets[i] != sets[0] {
				t.Errorf("the Sets: %s; want %s", sets[i], sets[0])
			}
			sameTold(t, "other heights", l, lists[0], keys)
		}
	}
}

func TestOtherOrdersTellTheSame(t *testing.T) {
	keys := []string{"", "a", "a\x00", "ab", "b"}
	want := plainOf[int]()
	for i, key := range keys {
		want.set(key, i, i+1)
	}
	orders := 0
	eachOrder(len(keys), func(order []int) {
		orders++
		l, p := New[int](), plainOf[int]()
		for _, at := range order {
			set(t, l, p, keys[at], at, at+1)
			wantRows(t, "so far", l, p)
		}
		wantList(t, "another order", l, want)
	})
	if orders != 120 {
		t.Errorf("orders: %d; want 120", orders)
	}
}

// eachOrder: tell is called with each order of the numbers below n.
func eachOrder(n int, tell func(order []int)) {
	order := make([]int, n)
	for i := range order {
		order[i] = i
	}
	var put func(at int)
	put = func(at int) {
		if at == n {
			tell(order)
			return
		}
		for i := at; i < n; i++ {
			order[at], order[i] = order[i], order[at]
			put(at + 1)
			order[at], order[i] = order[i], order[at]
		}
	}
	put(0)
}

// All heights of four keys, in all orders of them, of few heights.
func TestAllTowersOfFewKeys(t *testing.T) {
	keys := []string{"a", "b", "c", "d"}
	heights := []int{0, 1, 2, 3, 12}
	eachOrder(len(keys), func(order []int) {
		for code := range 5 * 5 * 5 * 5 {
			l, p := New[int](), plainOf[int]()
			for i, at := range order {
				set(t, l, p, keys[at], i, heights[code%5])
				code /= 5
			}
			wantRows(t, "few keys", l, p)
			for _, key := range []string{"", "a", "aa", "b", "c", "cz", "d", "e"} {
				wantKey(t, "few keys", l, p, key)
				wantFrom(t, "few keys", l.From(key), p, p.from(key))
			}
		}
	})
}

func TestLongRunsAgainstAPlainSortedList(t *testing.T) {
	for _, c := range []struct {
		seed          numberMaker
		sets, letters int
		most          int
	}{{1, 3000, 2, 8}, {2, 3000, 3, 5}, {3, 2000, 256, 2}, {4, 2000, 4, 3}, {5, 500, 256, 70}} {
		maker := c.seed
		l, p := New[int](), plainOf[int]()
		for i := range c.sets {
			key := make([]byte, maker.below(c.most+1))
			for j := range key {
				key[j] = byte(maker.below(c.letters) * 255 / (c.letters - 1))
			}
			height := maker.height()
			if maker.below(8) == 0 {
				height = maker.below(20) - 4
			}
			set(t, l, p, string(key), i, height)
			wantKey(t, "a long run", l, p, string(key))
			probe := string(key[:len(key)/2]) + "\x7f"
			wantKey(t, "a long run", l, p, probe)
			if i%100 == 0 {
				wantRows(t, "a long run", l, p)
				wantFrom(t, "a long run", l.From(probe), p, p.from(probe))
			}
		}
		wantList(t, "behind a long run", l, p)
	}
}

func TestVeryManyKeys(t *testing.T) {
	const count = 100000
	l := New[int]()
	maker := numberMaker(9)
	for i := range count {
		at := i * 7919 % count
		if !l.Set(strconv.Itoa(count+at), at, maker.height()) {
			t.Fatalf("Set of %d: false", at)
		}
	}
	at := 0
	for k, v := range l.From("") {
		if v != at || k != strconv.Itoa(count+at) {
			t.Fatalf("%q, %d is told as the one of number %d", k, v, at)
		}
		at++
	}
	if at != count || l.Len() != count {
		t.Errorf("told: %d, Len: %d; want %d", at, l.Len(), count)
	}
	for at := range count {
		if v, ok := l.Get(strconv.Itoa(count + at)); v != at || !ok {
			t.Fatalf("Get of %d: %d, %v", at, v, ok)
		}
	}
}
