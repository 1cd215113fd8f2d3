package version_test

import (
	"cmp"
	"math"
	"slices"
	"strconv"
	"strings"
	"testing"
	"unsafe"

	"copyhold/api"
	"copyhold/edit"
	"copyhold/version"
)

// numberMaker: numbers that look like chance, the same ones in each run.
type numberMaker uint64

// below: a number from 0 on, below n.
func (m *numberMaker) below(n int) int {
	*m = *m*6364136223846793005 + 1442695040888963407
	return int(uint32(*m>>32)) % n
}

// letters: a text of so many bytes, no two of which side by side are alike.
func letters(size int) string {
	b := make([]byte, size)
	for i := range b {
		b[i] = byte('a' + i%26)
	}
	return string(b)
}

// pad: a text with letters behind it, so that it has so many bytes at least.
func pad(s string, size int) string { return s + letters(max(0, size-len(s))) }

// table: the chapter's t.
func table(n uint64, level int, first, last string) api.Table {
	return api.Table{N: n, Level: level, Count: 2, Size: 40, First: first, Last: last, Least: 1, Most: 9}
}

// lay: a version of tables, each on its level in the row that they are handed in, with room for more numbers.
func lay(tables ...api.Table) version.Version {
	v := version.Version{Seq: 9, Next: 1000}
	for _, t := range tables {
		v.Levels[t.Level] = append(v.Levels[t.Level], t)
	}
	return v
}

// broad: a right version with three tables on each level, those of level 0 with keys that meet.
func broad() version.Version {
	v := lay(table(12, 0, "a", "m"), table(11, 0, "c", "z"), table(9, 0, "b", "b"),
		table(5, 1, "b", "d"), table(8, 1, "f", "h"), table(6, 1, "j", "l"),
		table(2, 2, "a", "c"), table(10, 2, "e", "e"), table(1, 2, "i", "n"),
		table(7, 3, "a", "b"), table(3, 3, "d", "k"), table(4, 3, "m", "z"))
	v.Log, v.Next = 12, 13
	return v
}

// copyOf: the same, in memory of its own.
func copyOf(v version.Version) version.Version {
	for level := range v.Levels {
		v.Levels[level] = copied(v.Levels[level])
	}
	return v
}

func copied(tables []api.Table) []api.Table {
	tables = slices.Clone(tables)
	for i := range tables {
		tables[i].First, tables[i].Last = strings.Clone(tables[i].First), strings.Clone(tables[i].Last)
	}
	return tables
}

func same(a, b version.Version) bool {
	return slices.EqualFunc(a.Levels[:], b.Levels[:], slices.Equal[[]api.Table]) && a.Log == b.Log && a.Seq == b.Seq && a.Next == b.Next
}

func samePlan(a, b version.Plan) bool {
	return a.Level == b.Level && slices.Equal(a.In, b.In) && slices.Equal(a.Below, b.Below) && a.Bottom == b.Bottom
}

func sameEdit(a, b edit.Edit) bool {
	return slices.Equal(a.Add, b.Add) && slices.Equal(a.Drop, b.Drop) && a.Log == b.Log && a.Seq == b.Seq && a.Next == b.Next
}

// numbers: those of some tables, in their row.
func numbers(tables []api.Table) string {
	var out []string
	for _, t := range tables {
		out = append(out, strconv.FormatUint(t.N, 10))
	}
	return strings.Join(out, " ")
}

// show: a version's numbers, level by level.
func show(v version.Version) string {
	var out []string
	for _, tables := range v.Levels {
		out = append(out, numbers(tables))
	}
	for _, n := range []uint64{v.Log, v.Seq, v.Next} {
		out = append(out, strconv.FormatUint(n, 10))
	}
	return strings.Join(out, " | ")
}

// What the words of the chapter ask for, done the long way.

func rightTableByWords(t api.Table) bool {
	return !(t.N < 1 || t.N > 1<<40 || t.Level < 0 || t.Level > 3 || t.Count < 1 || t.Size < 1 ||
		len(t.First) < 1 || len(t.First) > 64 || len(t.Last) < 1 || len(t.Last) > 64 || strings.Compare(t.First, t.Last) > 0 ||
		t.Least < 1 || t.Least > t.Most)
}

// meetByWords: whether a table has a key of a range whose ends are keys.
func meetByWords(t api.Table, first, last string) bool {
	return max(t.First, first) <= min(t.Last, last)
}

// standing: a table with the level that it stands on and its place there.
type standing struct {
	api.Table
	on, at int
}

func allStanding(v version.Version) []standing {
	var out []standing
	for level, tables := range v.Levels {
		for i, t := range tables {
			out = append(out, standing{t, level, i})
		}
	}
	return out
}

// rightByWords: each table by itself, and each with each other one.
func rightByWords(v version.Version) bool {
	all := allStanding(v)
	for _, a := range all {
		if !rightTableByWords(a.Table) || a.Level != a.on || a.N >= v.Next || a.Most > v.Seq {
			return false
		}
		for _, b := range all {
			if (a.on != b.on || a.at != b.at) && a.N == b.N {
				return false
			}
			if a.on != b.on || a.at >= b.at {
				continue
			}
			if a.on == 0 && a.N < b.N || a.on > 0 && (a.First > b.First || meetByWords(a.Table, b.First, b.Last)) {
				return false
			}
		}
	}
	return v.Log < v.Next && v.Next >= 1 && v.Next <= 1<<40+1
}

// arranged: a version of tables, each put where it belongs.
func arranged(tables []api.Table) (levels [4][]api.Table) {
	for _, t := range tables {
		if t.Level >= 0 && t.Level < 4 {
			levels[t.Level] = append(levels[t.Level], t)
		}
	}
	slices.SortFunc(levels[0], func(a, b api.Table) int { return cmp.Compare(b.N, a.N) })
	for level := 1; level < 4; level++ {
		slices.SortFunc(levels[level], func(a, b api.Table) int { return strings.Compare(a.First, b.First) })
	}
	return levels
}

func at(tables []api.Table, n uint64) int {
	return slices.IndexFunc(tables, func(t api.Table) bool { return t.N == n })
}

// applyByWords: what Apply has to answer.
func applyByWords(v version.Version, edits ...edit.Edit) (version.Version, api.Errno) {
	if !rightByWords(v) {
		return version.Version{}, api.ErrArg
	}
	for _, e := range edits {
		var there []api.Table
		for _, t := range allStanding(v) {
			there = append(there, t.Table)
		}
		for _, n := range e.Drop {
			i := at(there, n)
			if i < 0 {
				return version.Version{}, api.ErrNone
			}
			there = slices.Delete(there, i, i+1)
		}
		outside := false
		for _, t := range e.Add {
			if at(there, t.N) >= 0 {
				return version.Version{}, api.ErrThere
			}
			outside = outside || t.Level < 0 || t.Level > 3
			there = append(there, t)
		}
		v = version.Version{Levels: arranged(there), Log: max(v.Log, e.Log), Seq: max(v.Seq, e.Seq), Next: max(v.Next, e.Next)}
		if outside || !rightByWords(v) {
			return version.Version{}, api.ErrArg
		}
	}
	return v, api.OK
}

// overlapByWords: what Overlap has to answer of ranges whose ends have at most 64 bytes.
func overlapByWords(v version.Version, level int, first, last string) []api.Table {
	var out []api.Table
	for _, t := range allStanding(v) {
		if t.on == level && first <= last && meetByWords(t.Table, first, last) {
			out = append(out, t.Table)
		}
	}
	return out
}

// pickByWords: what Pick has to answer.
func pickByWords(v version.Version) (version.Plan, bool) {
	var p version.Plan
	switch {
	case len(v.Levels[0]) > 3:
		p = version.Plan{Level: 0, In: v.Levels[0]}
	case len(v.Levels[1]) > 4:
		p = version.Plan{Level: 1, In: v.Levels[1][:1]}
	case len(v.Levels[2]) > 16:
		p = version.Plan{Level: 2, In: v.Levels[2][:1]}
	default:
		return version.Plan{}, false
	}
	first, last := ends(p.In)
	p.Below = overlapByWords(v, p.Level+1, first, last)
	first, last = ends(append(slices.Clone(p.In), p.Below...))
	p.Bottom = true
	for _, t := range allStanding(v) {
		p.Bottom = p.Bottom && !(t.on > p.Level+1 && meetByWords(t.Table, first, last))
	}
	return p, true
}

// ends: the least First and the greatest Last.
func ends(tables []api.Table) (first, last string) {
	var firsts, lasts []string
	for _, t := range tables {
		firsts, lasts = append(firsts, t.First), append(lasts, t.Last)
	}
	return slices.Min(firsts), slices.Max(lasts)
}

// Wants.

func wantRight(t *testing.T, what string, v version.Version, want bool) {
	t.Helper()
	if words := rightByWords(v); words != want {
		t.Fatalf("%s: the test says %v, the words %v: %s", what, want, words, show(v))
	}
	if got := v.Right(); got != want {
		t.Errorf("Right of %s: %v; want %v: %s", what, got, want, show(v))
	}
}

// wantApply: an answer of Apply, and what it comes to by the words.
func wantApply(t *testing.T, what string, v version.Version, want api.Errno, edits ...edit.Edit) version.Version {
	t.Helper()
	wantVersion, words := applyByWords(v, edits...)
	if words != want {
		t.Fatalf("%s: the test says %d, the words %d", what, want, words)
	}
	got, errno := v.Apply(edits...)
	if errno != want || !same(got, wantVersion) {
		t.Errorf("Apply, %s: %s, %d; want %s, %d", what, show(got), errno, show(wantVersion), want)
	}
	return got
}

func wantTables(t *testing.T, what string, got, want []api.Table) {
	t.Helper()
	if !slices.Equal(got, want) {
		t.Errorf("%s: %s; want %s", what, numbers(got), numbers(want))
	}
}

func wantNumbers(t *testing.T, what string, got []api.Table, want string) {
	t.Helper()
	if numbers(got) != want {
		t.Errorf("%s: %s; want %s", what, numbers(got), want)
	}
}

func wantPick(t *testing.T, what string, v version.Version) version.Plan {
	t.Helper()
	want, wantOK := pickByWords(v)
	got, ok := v.Pick()
	if ok != wantOK || !samePlan(got, want) {
		t.Errorf("Pick of %s, %s: level %d, %s, %s, %v, %v; want level %d, %s, %s, %v, %v", what, show(v),
			got.Level, numbers(got.In), numbers(got.Below), got.Bottom, ok, want.Level, numbers(want.In), numbers(want.Below), want.Bottom, wantOK)
	}
	return got
}

// add: an edit that lets tables come, and nothing else.
func add(tables ...api.Table) edit.Edit { return edit.Edit{Add: tables} }

// drop: an edit that lets tables go, and nothing else.
func drop(ns ...uint64) edit.Edit { return edit.Edit{Drop: ns} }

// The examples.

func TestExamples(t *testing.T) {
	one := table(1, 0, "a", "c")
	if v, errno := version.New().Apply(edit.Edit{Add: []api.Table{one}, Next: 2}); errno != api.ErrArg || !same(v, version.Version{}) {
		t.Errorf("without Seq: %s, %d", show(v), errno)
	}
	v, errno := version.New().Apply(edit.Edit{Add: []api.Table{one}, Seq: 9, Next: 2})
	if errno != api.OK || show(v) != "1 |  |  |  | 0 | 9 | 2" {
		t.Errorf("with Seq 9: %s, %d", show(v), errno)
	}
	v, errno = v.Apply(edit.Edit{Add: []api.Table{table(2, 0, "b", "d")}, Next: 3}, edit.Edit{Add: []api.Table{table(3, 1, "e", "f")}, Next: 4})
	if errno != api.OK || show(v) != "2 1 | 3 |  |  | 0 | 9 | 4" {
		t.Errorf("then two more: %s, %d", show(v), errno)
	}
	wantNumbers(t, "Find c", v.Find("c"), "2 1")
	wantNumbers(t, "Find e", v.Find("e"), "3")
	wantNumbers(t, "Overlap 0, d, z", v.Overlap(0, "d", "z"), "2")
	wantNumbers(t, "Overlap 1, f, e", v.Overlap(1, "f", "e"), "")
	wantApply(t, "drop 7", v, api.ErrNone, drop(7))
	wantApply(t, "add 3", v, api.ErrThere, add(table(3, 1, "x", "y")))
	wantApply(t, "add f to g", v, api.ErrArg, edit.Edit{Add: []api.Table{table(4, 1, "f", "g")}, Next: 5})

	v = lay(table(4, 0, "a", "c"), table(3, 0, "a", "c"), table(2, 0, "a", "c"), table(1, 0, "a", "c"), table(5, 1, "c", "d"), table(6, 2, "d", "e"))
	p, ok := v.Pick()
	if !ok || p.Level != 0 || numbers(p.In) != "4 3 2 1" || numbers(p.Below) != "5" || p.Bottom {
		t.Errorf("Pick: %v, %v", p, ok)
	}
}

// P14.1: New, Right

func TestNew(t *testing.T) {
	v := version.New()
	if !same(v, version.Version{Next: 1}) {
		t.Errorf("New: %s", show(v))
	}
	wantRight(t, "New's", v, true)
	wantRight(t, "the zero one", version.Version{}, false)
	wantRight(t, "one with empty lists", version.Version{Levels: [4][]api.Table{{}, {}, {}, {}}, Next: 1}, true)
	// Each call's is another one.
	v.Levels[0], v.Next = append(v.Levels[0], table(1, 0, "a", "a")), 7
	if !same(version.New(), version.Version{Next: 1}) {
		t.Errorf("New behind a change: %s", show(version.New()))
	}
}

// change: of a table, told by what it makes of it.
type change struct {
	what string
	do   func(t *api.Table)
}

// boundChanges: what a table may be made to, so that it is right still, among keys that stay.
func boundChanges() []change {
	return []change{
		{"Count 1", func(t *api.Table) { t.Count = 1 }},
		{"Count greatest", func(t *api.Table) { t.Count = math.MaxInt }},
		{"Size 1", func(t *api.Table) { t.Size = 1 }},
		{"Size greatest", func(t *api.Table) { t.Size = math.MaxInt }},
		{"one key", func(t *api.Table) { t.Last = t.First }},
		{"Last longest", func(t *api.Table) { t.Last = pad(t.Last, 64) }},
		{"First longest", func(t *api.Table) {
			t.First, t.Last = pad(t.First, 64), t.Last+"\xff"
		}},
		{"both longest", func(t *api.Table) {
			t.First = pad(t.First, 64)
			t.Last = t.First
		}},
		{"Least Most", func(t *api.Table) { t.Least = t.Most }},
		{"both 1", func(t *api.Table) { t.Least, t.Most = 1, 1 }},
		{"Least 2", func(t *api.Table) { t.Least = 2 }},
	}
}

// wrongChanges: what a table may not be made to.
func wrongChanges() []change {
	out := []change{
		{"N 0", func(t *api.Table) { t.N = 0 }},
		{"N above all", func(t *api.Table) { t.N = 1<<40 + 1 }},
		{"N greatest", func(t *api.Table) { t.N = math.MaxUint64 }},
		{"First empty", func(t *api.Table) { t.First = "" }},
		{"Last empty", func(t *api.Table) { t.Last = "" }},
		{"both empty", func(t *api.Table) { t.First, t.Last = "", "" }},
		{"First too long", func(t *api.Table) { t.First, t.Last = pad(t.First, 65), t.Last+"\xff" }},
		{"Last too long", func(t *api.Table) { t.Last = pad(t.Last, 65) }},
		{"First above Last", func(t *api.Table) { t.First = t.Last + "\x00" }},
		{"Least 0", func(t *api.Table) { t.Least = 0 }},
		{"Least and Most 0", func(t *api.Table) { t.Least, t.Most = 0, 0 }},
		{"Least above Most", func(t *api.Table) { t.Least = t.Most + 1 }},
		{"Most below Least", func(t *api.Table) { t.Least, t.Most = 9, 8 }},
		{"Most above Seq", func(t *api.Table) { t.Most = 10 }},
		{"Most greatest", func(t *api.Table) { t.Most = math.MaxUint64 }},
	}
	for _, n := range []int{math.MinInt, -1, 0} {
		out = append(out, change{"Count " + strconv.Itoa(n), func(t *api.Table) { t.Count = n }},
			change{"Size " + strconv.Itoa(n), func(t *api.Table) { t.Size = n }})
	}
	for _, n := range []int{math.MinInt, -1, 4, 5, math.MaxInt} {
		out = append(out, change{"Level " + strconv.Itoa(n), func(t *api.Table) { t.Level = n }})
	}
	return out
}

// eachPlace: a right version, again and again, with each of its tables changed.
func eachPlace(c change, see func(what string, v version.Version)) {
	for level := range 4 {
		for i := range 3 {
			v := copyOf(broad())
			c.do(&v.Levels[level][i])
			see(c.what+" of "+strconv.Itoa(level)+", "+strconv.Itoa(i), v)
		}
	}
}

func TestTablesAtTheirBounds(t *testing.T) {
	wantRight(t, "the broad one", broad(), true)
	for _, c := range boundChanges() {
		eachPlace(c, func(what string, v version.Version) { wantRight(t, what, v, true) })
	}
	for level := range 4 {
		for _, n := range []uint64{1, 2, 1<<40 - 1, 1 << 40} {
			v := lay(table(n, level, "a", "b"))
			v.Next = 1<<40 + 1
			wantRight(t, "a number alone", v, true)
		}
		for _, keys := range [][2]string{{"\x00", "\x00"}, {"\x00", "\xff"}, {"\xff", "\xff"}, {"\x7f", "\x80"}, {letters(64), letters(64)}, {letters(63), letters(64)}, {strings.Repeat("\xff", 64), strings.Repeat("\xff", 64)}} {
			wantRight(t, "keys alone", lay(table(1, level, keys[0], keys[1])), true)
		}
	}
}

func TestTablesBeyondTheirBounds(t *testing.T) {
	for _, c := range wrongChanges() {
		eachPlace(c, func(what string, v version.Version) { wantRight(t, what, v, false) })
		for level := range 4 {
			v := lay(table(1, level, "a", "b"))
			c.do(&v.Levels[level][0])
			wantRight(t, c.what+" alone on "+strconv.Itoa(level), v, false)
		}
	}
}

func TestTablesOnOtherLevels(t *testing.T) {
	for level := range 4 {
		for on := range 4 {
			v := lay(table(1, level, "a", "b"))
			v.Levels[level], v.Levels[on] = nil, v.Levels[level]
			wantRight(t, "a table of "+strconv.Itoa(level)+" on "+strconv.Itoa(on), v, level == on)
			for i := range 3 {
				v = copyOf(broad())
				v.Levels[level][i].Level = on
				wantRight(t, "one of three", v, level == on)
			}
		}
	}
}

func TestNumbersThatStandTwice(t *testing.T) {
	for _, a := range allStanding(broad()) {
		for _, b := range allStanding(broad()) {
			v := copyOf(broad())
			v.Levels[a.on][a.at].N = b.N
			if a.N == b.N {
				wantRight(t, "a number as it was", v, true)
			} else {
				wantRight(t, "a number twice", v, false)
			}
		}
	}
	// So that nothing else is wrong.
	for a := range 4 {
		for b := range 4 {
			v := lay(table(5, a, "a", "b"), table(5, b, "c", "d"))
			wantRight(t, "a number twice, on "+strconv.Itoa(a)+" and "+strconv.Itoa(b), v, false)
			v.Levels[b][len(v.Levels[b])-1].N = 4
			wantRight(t, "two numbers", v, true)
		}
	}
}

func TestOrderOfLevelZero(t *testing.T) {
	for _, x := range []struct {
		ns   []uint64
		want bool
	}{
		{[]uint64{2, 1}, true}, {[]uint64{1, 2}, false}, {[]uint64{1, 1}, false}, {[]uint64{3, 2, 1}, true}, {[]uint64{999, 500, 1}, true},
		{[]uint64{3, 1, 2}, false}, {[]uint64{2, 3, 1}, false}, {[]uint64{1, 2, 3}, false}, {[]uint64{3, 2, 3}, false}, {[]uint64{3, 3, 2}, false}, {[]uint64{3, 2, 2}, false},
	} {
		// Keys say nothing there: they rise, fall, meet, or are alike.
		for _, keys := range [][]string{{"a", "b", "c"}, {"c", "b", "a"}, {"a", "a", "a"}} {
			var falling, wide []api.Table
			for i, n := range x.ns {
				falling = append(falling, table(n, 0, keys[i], keys[i]))
				wide = append(wide, table(n, 0, keys[i], "d"))
			}
			wantRight(t, "level 0", lay(falling...), x.want)
			wantRight(t, "level 0", lay(wide...), x.want)
		}
	}
}

func TestOrderOfOtherLevels(t *testing.T) {
	for _, x := range []struct {
		what string
		keys []string
		want bool
	}{
		{"rising", []string{"a", "b", "c", "d"}, true},
		{"falling", []string{"c", "d", "a", "b"}, false},
		{"of one key each", []string{"a", "a", "b", "b"}, true},
		{"of one key", []string{"a", "a", "a", "a"}, false},
		{"that meet in one key", []string{"a", "b", "b", "c"}, false},
		{"that touch", []string{"a", "b", "b\x00", "c"}, true},
		{"that touch, with bytes that are great", []string{"a", "a\xff", "b", "c"}, true},
		{"that meet in more", []string{"a", "c", "b", "d"}, false},
		{"one within the other", []string{"a", "d", "b", "c"}, false},
		{"the other within one", []string{"b", "c", "a", "d"}, false},
		{"with one First", []string{"a", "b", "a", "c"}, false},
		{"with one Last", []string{"a", "c", "b", "c"}, false},
		{"the same", []string{"a", "b", "a", "b"}, false},
		{"of unsigned bytes", []string{"\x7f", "\x7f", "\x80", "\xff"}, true},
		{"of unsigned bytes, falling", []string{"\x80", "\xff", "\x7f", "\x7f"}, false},
		{"that touch, as long as may be", []string{"a", strings.Repeat("b", 63) + "b", strings.Repeat("b", 63) + "c", "c"}, true},
		{"the third one meets the first one", []string{"a", "f", "c", "d", "g", "h"}, false},
		{"the third one below the first one", []string{"e", "f", "g", "h", "a", "b"}, false},
		{"three", []string{"a", "b", "c", "d", "e", "f"}, true},
	} {
		for level := 1; level < 4; level++ {
			// Numbers say nothing there.
			for _, ns := range [][]uint64{{1, 2, 3}, {3, 2, 1}, {2, 3, 1}} {
				var tables []api.Table
				for i := 0; i < len(x.keys); i += 2 {
					tables = append(tables, table(ns[i/2], level, x.keys[i], x.keys[i+1]))
				}
				wantRight(t, x.what, lay(tables...), x.want)
			}
		}
	}
}

// Tables of unlike levels may meet, also if one is another's twin but for its number.
func TestLevelsMayMeet(t *testing.T) {
	wantRight(t, "one on each level", lay(table(1, 0, "a", "b"), table(2, 1, "a", "b"), table(3, 2, "a", "b"), table(4, 3, "a", "b")), true)
}

func TestLogAndNext(t *testing.T) {
	for _, x := range []struct {
		log, next uint64
		want      bool
	}{
		{0, 0, false}, {0, 1, true}, {1, 1, false}, {2, 1, false}, {1, 2, true}, {0, 2, true}, {2, 2, false},
		{0, 1 << 40, true}, {0, 1<<40 + 1, true}, {1<<40 - 1, 1<<40 + 1, true}, {1 << 40, 1<<40 + 1, true}, {1<<40 + 1, 1<<40 + 1, false}, {1<<40 + 2, 1<<40 + 1, false},
		{0, 1<<40 + 2, false}, {1<<40 + 1, 1<<40 + 2, false}, {0, math.MaxUint64, false}, {math.MaxUint64, 1, false}, {math.MaxUint64, 0, false}, {math.MaxUint64 - 1, math.MaxUint64, false}, {0, 1 << 63, false},
	} {
		wantRight(t, "numbers without tables", version.Version{Log: x.log, Next: x.next}, x.want)
	}
}

func TestNumbersAtNext(t *testing.T) {
	for level := range 4 {
		for _, x := range []struct {
			n, next uint64
			want    bool
		}{
			{1, 0, false}, {1, 1, false}, {1, 2, true}, {7, 7, false}, {7, 6, false}, {7, 8, true}, {7, 9, true},
			{1 << 40, 1 << 40, false}, {1 << 40, 1<<40 + 1, true}, {1 << 40, 1<<40 + 2, false}, {1<<40 + 1, 1<<40 + 1, false}, {1<<40 + 1, 1<<40 + 2, false},
		} {
			v := lay(table(x.n, level, "a", "b"))
			v.Next = x.next
			wantRight(t, "a number at Next", v, x.want)
		}
	}
	// Next lies just above one table's number, wherever that stands.
	for _, s := range allStanding(broad()) {
		v := copyOf(broad())
		v.Levels[s.on][s.at].N, v.Next, v.Log = 500, 501, 0
		wantRight(t, "a number below Next", v, s.on > 0 || s.at == 0)
		v.Next = 500
		wantRight(t, "a number at Next", v, false)
	}
}

func TestSeqAtMost(t *testing.T) {
	for _, s := range allStanding(broad()) {
		for _, x := range []struct {
			most, seq uint64
			want      bool
		}{
			{100, 99, false}, {100, 100, true}, {100, 101, true}, {100, math.MaxUint64, true}, {100, 9, false}, {100, 0, false},
			{math.MaxUint64, math.MaxUint64 - 1, false}, {math.MaxUint64, math.MaxUint64, true}, {1 << 63, 1<<63 - 1, false}, {1 << 63, 1 << 63, true},
		} {
			v := copyOf(broad())
			v.Levels[s.on][s.at].Most, v.Seq = x.most, x.seq
			wantRight(t, "Seq beside Most", v, x.want)
		}
	}
	for _, seq := range []uint64{0, 1, 1 << 40, math.MaxUint64} {
		wantRight(t, "Seq without tables", version.Version{Seq: seq, Next: 1}, true)
	}
}

// smallKeys: few of them, close together.
func smallKeys() []string { return []string{"a", "a\x00", "a\xff", "b", "c"} }

// smallTables: those of a number with all such keys.
func smallTables(n uint64, level int) []api.Table {
	var out []api.Table
	for _, first := range smallKeys() {
		for _, last := range smallKeys() {
			out = append(out, table(n, level, first, last))
		}
	}
	return out
}

// All pairs of small tables on each level, and all threes of one.
func TestAllSmallVersions(t *testing.T) {
	count := [2]int{}
	see := func(v version.Version) {
		want := rightByWords(v)
		wantRight(t, "a small one", v, want)
		if want {
			count[0]++
		} else {
			count[1]++
		}
	}
	for level := range 4 {
		for _, a := range smallTables(3, level) {
			for _, b := range append(smallTables(2, level), smallTables(4, level)...) {
				see(lay(a, b))
			}
		}
	}
	for _, a := range smallTables(1, 2) {
		for _, b := range smallTables(2, 2) {
			for _, c := range smallTables(3, 2) {
				see(lay(a, b, c))
			}
		}
	}
	if count[0] < 200 || count[1] < 200 {
		t.Errorf("%d are right, %d are not", count[0], count[1])
	}
}

// chanceKeys: two keys of one letter or two, the first one not above the last one.
func chanceKeys(m *numberMaker) (first, last string) {
	key := func() string {
		k := string([]byte{byte('a' + m.below(12))})
		if m.below(3) == 0 {
			k += string([]byte{byte('a' + m.below(3))})
		}
		return k
	}
	first = key()
	if m.below(2) == 0 {
		return first, first + "b"
	}
	last = key()
	return min(first, last), max(first, last)
}

// chanceVersion: up to so many tables that were tried out, all that fit; right.
func chanceVersion(m *numberMaker, most int) version.Version {
	var there []api.Table
	v := version.Version{Log: uint64(m.below(40)), Seq: uint64(9 + m.below(9)), Next: uint64(40 + m.below(3))}
	for range m.below(most + 1) {
		first, last := chanceKeys(m)
		x := table(uint64(1+m.below(39)), m.below(4), first, last)
		x.Count, x.Size, x.Least = 1+m.below(50), 1+m.below(50), uint64(1+m.below(5))
		x.Most = x.Least + uint64(m.below(5))
		w := version.Version{Levels: arranged(append(slices.Clone(there), x)), Log: v.Log, Seq: v.Seq, Next: v.Next}
		if rightByWords(w) {
			v, there = w, append(there, x)
		}
	}
	return v
}

// Versions that look like chance, as they are right, and with one thing or two changed.
func TestManyVersions(t *testing.T) {
	m := numberMaker(1)
	changes := append(boundChanges(), wrongChanges()...)
	changes = append(changes, change{"N", func(t *api.Table) { t.N = uint64(1 + m.below(40)) }}, change{"keys", func(t *api.Table) { t.First, t.Last = chanceKeys(&m) }})
	count := [2]int{}
	for range 4000 {
		v := chanceVersion(&m, 20)
		wantRight(t, "one that looks like chance", v, true)
		for range 1 + m.below(2) {
			all := allStanding(v)
			if len(all) == 0 {
				break
			}
			s := all[m.below(len(all))]
			switch m.below(4) {
			case 0:
				to := m.below(len(v.Levels[s.on]))
				l := v.Levels[s.on]
				l[s.at], l[to] = l[to], l[s.at]
			case 1:
				v.Log, v.Seq, v.Next = uint64(m.below(50)), uint64(m.below(20)), uint64(m.below(50))
			default:
				changes[m.below(len(changes))].do(&v.Levels[s.on][s.at])
			}
		}
		want := rightByWords(v)
		wantRight(t, "a changed one", v, want)
		if want {
			count[0]++
		} else {
			count[1]++
		}
	}
	if count[0] < 500 || count[1] < 500 {
		t.Errorf("%d are right, %d are not", count[0], count[1])
	}
}

// P14.1: Apply

// wrongVersions: versions that are not right, by what is wrong.
func wrongVersions() map[string]version.Version {
	out := map[string]version.Version{"zero": {}}
	for _, c := range wrongChanges() {
		eachPlace(c, func(what string, v version.Version) { out[what] = v })
	}
	put := func(what string, do func(v *version.Version)) {
		v := copyOf(broad())
		do(&v)
		out[what] = v
	}
	put("Log", func(v *version.Version) { v.Log = 13 })
	put("Seq", func(v *version.Version) { v.Seq = 8 })
	put("Next 12", func(v *version.Version) { v.Next = 12 })
	put("Next 0", func(v *version.Version) { v.Next = 0 })
	put("Next above all", func(v *version.Version) { v.Next = 1<<40 + 2 })
	for level := range 4 {
		put("order of "+strconv.Itoa(level), func(v *version.Version) { slices.Reverse(v.Levels[level]) })
		put("a number twice on "+strconv.Itoa(level), func(v *version.Version) { v.Levels[level][0].N = v.Levels[level][2].N })
		put("a number of another level on "+strconv.Itoa(level), func(v *version.Version) { v.Levels[level][0].N = v.Levels[(level+1)%4][0].N })
		if level > 0 {
			put("tables that meet on "+strconv.Itoa(level), func(v *version.Version) { v.Levels[level][1].Last = v.Levels[level][2].First })
		}
	}
	return out
}

func TestApplyToWrongVersions(t *testing.T) {
	for what, v := range wrongVersions() {
		wantRight(t, what, v, false)
		wantApply(t, what, v, api.ErrArg)
		wantApply(t, what, v, api.ErrArg, edit.Edit{})
		// Whatever an edit would mend, or be told.
		wantApply(t, what, v, api.ErrArg, edit.Edit{Log: 100, Seq: 100, Next: 101})
		wantApply(t, what, v, api.ErrArg, drop(77))
		wantApply(t, what, v, api.ErrArg, drop(1, 2, 3, 4, 5, 6, 7, 8, 9, 10, 11, 12))
		wantApply(t, what, v, api.ErrArg, add(table(12, 0, "a", "b")))
		for n := range uint64(13) {
			wantApply(t, what, v, api.ErrArg, drop(n))
		}
	}
}

func TestApplyOfNone(t *testing.T) {
	wantApply(t, "no edit to New's", version.New(), api.OK)
	wantApply(t, "no edit", broad(), api.OK)
	wantApply(t, "an edit that does nothing", broad(), api.OK, edit.Edit{})
	wantApply(t, "many that do nothing", broad(), api.OK, edit.Edit{}, edit.Edit{Add: []api.Table{}, Drop: []uint64{}}, edit.Edit{})
}

func TestDrops(t *testing.T) {
	all := []uint64{1, 2, 3, 4, 5, 6, 7, 8, 9, 10, 11, 12}
	for _, n := range all {
		wantApply(t, "one goes", broad(), api.OK, drop(n))
		wantApply(t, "one goes twice", broad(), api.ErrNone, drop(n, n))
		wantApply(t, "one goes twice, with others", broad(), api.ErrNone, drop(n, n%12+1, n))
		wantApply(t, "one goes again", broad(), api.ErrNone, drop(n), drop(n))
		wantApply(t, "one goes, and is let go behind others", broad(), api.ErrNone, drop(n), edit.Edit{}, drop(n%12+1, n))
		wantApply(t, "the others go", broad(), api.OK, drop(slices.DeleteFunc(slices.Clone(all), func(m uint64) bool { return m == n })...))
	}
	wantApply(t, "all go", broad(), api.OK, drop(all...))
	slices.Reverse(all)
	wantApply(t, "all go, the other way about", broad(), api.OK, drop(all...))
	for _, n := range []uint64{0, 13, 14, 999, 1 << 40, 1<<40 + 1, math.MaxUint64} {
		wantApply(t, "one that is not there", broad(), api.ErrNone, drop(n))
		wantApply(t, "one that is not there, behind one that is", broad(), api.ErrNone, drop(3, n))
		wantApply(t, "one that is not there, ahead of one that is", broad(), api.ErrNone, drop(n, 3))
		wantApply(t, "one that is not there, of New's", version.New(), api.ErrNone, drop(n))
	}
	next := edit.Edit{Add: []api.Table{table(13, 1, "x", "y")}, Next: 14}
	wantApply(t, "one that came goes", broad(), api.OK, next, drop(13))
	wantApply(t, "one that came goes twice", broad(), api.ErrNone, next, drop(13), drop(13))
	wantApply(t, "one that comes by the same edit", broad(), api.ErrNone, edit.Edit{Add: next.Add, Drop: []uint64{13}, Next: 14})
	wantApply(t, "one that came by that same edit, which was right", broad(), api.ErrNone, next, edit.Edit{Add: []api.Table{table(14, 1, "z", "z")}, Drop: []uint64{14}, Next: 15})
}

func TestAdds(t *testing.T) {
	fresh := table(13, 1, "x", "y")
	for level := range 4 {
		for _, n := range []uint64{1, 2, 3, 4, 5, 6, 7, 8, 9, 10, 11, 12} {
			x := table(n, level, "zz", "zz")
			wantApply(t, "one that is there", broad(), api.ErrThere, add(x))
			wantApply(t, "one that is there, behind one that is not", broad(), api.ErrThere, edit.Edit{Add: []api.Table{fresh, x}, Next: 14})
			wantApply(t, "one that is there, ahead of one that is not", broad(), api.ErrThere, edit.Edit{Add: []api.Table{x, fresh}, Next: 14})
			// No table has keys above z, so that nothing meets.
			wantApply(t, "one that goes, and comes", broad(), api.OK, edit.Edit{Add: []api.Table{x}, Drop: []uint64{n}})
			wantApply(t, "one that goes, and comes twice", broad(), api.ErrThere, edit.Edit{Add: []api.Table{x, table(n, level, "zzz", "zzz")}, Drop: []uint64{n}})
			wantApply(t, "one that went ahead of it", broad(), api.OK, drop(n), add(x))
			wantApply(t, "one that went, and came", broad(), api.ErrThere, drop(n), add(x), add(table(n, 1, "zzz", "zzz")))
		}
	}
	next := edit.Edit{Add: []api.Table{fresh}, Next: 14}
	wantApply(t, "one that came", broad(), api.ErrThere, next, edit.Edit{Add: []api.Table{table(13, 2, "x", "y")}})
	wantApply(t, "one that came and went", broad(), api.OK, next, drop(13), next)
	for a := range 4 {
		for b := range 4 {
			wantApply(t, "one twice", broad(), api.ErrThere, edit.Edit{Add: []api.Table{table(13, a, "x", "x"), table(13, b, "y", "y")}, Next: 14})
		}
	}
	wantApply(t, "one twice, another between", broad(), api.ErrThere, edit.Edit{Add: []api.Table{fresh, table(14, 2, "x", "y"), fresh}, Next: 15})
}

// Where each table comes: ahead of, between and behind all of its level.
func TestAddsPlace(t *testing.T) {
	for _, x := range []struct {
		level       int
		first, last string
		want        string
	}{
		{1, "a", "a", "13 5 8 6"}, {1, "a", "a\xff", "13 5 8 6"}, {1, "e", "e", "5 13 8 6"}, {1, "d\x00", "e\xff", "5 13 8 6"}, {1, "i", "i", "5 8 13 6"}, {1, "l\x00", "z", "5 8 6 13"},
		{2, "\x00", "\x01", "13 2 10 1"}, {2, "d", "d", "2 13 10 1"}, {2, "f", "h", "2 10 13 1"}, {2, "z", "z", "2 10 1 13"},
		{3, "c", "c", "7 13 3 4"}, {3, "l", "l", "7 3 13 4"},
		{0, "a", "z", "13 12 11 9"}, {0, "z", "z", "13 12 11 9"},
	} {
		v := wantApply(t, "one more", broad(), api.OK, edit.Edit{Add: []api.Table{table(13, x.level, x.first, x.last)}, Next: 14})
		wantNumbers(t, "one more, "+x.first+" to "+x.last, v.Levels[x.level], x.want)
	}
	v := wantApply(t, "numbers between those of level 0", lay(table(9, 0, "a", "a"), table(5, 0, "a", "a")), api.OK, add(table(7, 0, "b", "b"), table(1, 0, "b", "b"), table(20, 0, "a", "z")))
	wantNumbers(t, "level 0", v.Levels[0], "20 9 7 5 1")
	v = wantApply(t, "many, in any row", version.New(), api.OK, edit.Edit{Add: []api.Table{table(4, 2, "m", "n"), table(2, 2, "a", "b"), table(9, 2, "x", "y"), table(3, 2, "e", "f")}, Seq: 9, Next: 10})
	wantNumbers(t, "level 2", v.Levels[2], "2 3 4 9")
}

func TestTablesThatMayNotCome(t *testing.T) {
	for _, c := range wrongChanges() {
		for level := range 4 {
			x := table(13, level, "za", "zb")
			c.do(&x)
			// Above 4's z, whatever is wrong, but where the keys are.
			wantApply(t, c.what, broad(), api.ErrArg, edit.Edit{Add: []api.Table{x}, Next: 1<<40 + 1})
			wantApply(t, c.what+", to New's", version.New(), api.ErrArg, edit.Edit{Add: []api.Table{x}, Seq: 9, Next: 1<<40 + 1})
			wantApply(t, c.what+", ahead of a right one", broad(), api.ErrArg, edit.Edit{Add: []api.Table{x, table(14, level, "zc", "zc")}, Next: 1<<40 + 1})
			wantApply(t, c.what+", behind a right one", broad(), api.ErrArg, edit.Edit{Add: []api.Table{table(14, level, "zc", "zc"), x}, Next: 1<<40 + 1})
		}
	}
	for _, c := range boundChanges() {
		for level := range 4 {
			x := table(13, level, "za", "zb")
			c.do(&x)
			wantApply(t, c.what, broad(), api.OK, edit.Edit{Add: []api.Table{x}, Next: 14})
		}
	}
}

func TestTablesThatMeet(t *testing.T) {
	for _, keys := range [][2]string{{"d", "d"}, {"d", "e"}, {"e", "f"}, {"a", "b"}, {"a", "z"}, {"b", "d"}, {"c", "c"}, {"l", "z"}, {"e", "i\xff\xff"}, {"f", "h"}, {"a", "b\x00"}} {
		x := table(13, 1, keys[0], keys[1])
		wantApply(t, "one that meets "+keys[0]+" to "+keys[1], broad(), api.ErrArg, edit.Edit{Add: []api.Table{x}, Next: 14})
		x.Level = 0
		wantApply(t, "on level 0", broad(), api.OK, edit.Edit{Add: []api.Table{x}, Next: 14})
	}
	for level := 1; level < 4; level++ {
		for _, keys := range [][4]string{{"p", "q", "q", "r"}, {"q", "r", "p", "q"}, {"p", "s", "q", "r"}, {"q", "r", "p", "s"}, {"p", "q", "p", "q"}} {
			two := []api.Table{table(13, level, keys[0], keys[1]), table(14, level, keys[2], keys[3])}
			wantApply(t, "two of one edit that meet", lay(), api.ErrArg, add(two...))
			wantApply(t, "two of two edits that meet", lay(), api.ErrArg, add(two[0]), add(two[1]))
			wantApply(t, "the one ahead went", lay(), api.OK, add(two[0]), edit.Edit{Drop: []uint64{13}, Add: two[1:]})
		}
	}
	// What goes makes way.
	wantApply(t, "in place of three", broad(), api.OK, edit.Edit{Drop: []uint64{5, 8, 6}, Add: []api.Table{table(13, 1, "a", "z")}, Next: 14})
	wantApply(t, "in place of two", broad(), api.ErrArg, edit.Edit{Drop: []uint64{5, 8}, Add: []api.Table{table(13, 1, "a", "z")}, Next: 14})
	wantApply(t, "one goes deeper", broad(), api.OK, edit.Edit{Drop: []uint64{8, 10}, Add: []api.Table{table(8, 2, "f", "h")}})
}

// Each of the errors, with others at the same edit and at others.
func TestWhichErrorComesFirst(t *testing.T) {
	none, there, wrong := drop(77), add(table(12, 0, "a", "b")), edit.Edit{Log: 13}
	wantApply(t, "none alone", broad(), api.ErrNone, none)
	wantApply(t, "there alone", broad(), api.ErrThere, there)
	wantApply(t, "wrong alone", broad(), api.ErrArg, wrong)
	for _, x := range []struct {
		e    edit.Edit
		want api.Errno
	}{
		{edit.Edit{Drop: none.Drop, Add: there.Add}, api.ErrNone},
		{edit.Edit{Drop: none.Drop, Log: 13}, api.ErrNone},
		{edit.Edit{Drop: none.Drop, Add: []api.Table{{}}}, api.ErrNone},
		{edit.Edit{Drop: []uint64{0}, Add: []api.Table{{}}}, api.ErrNone},
		{edit.Edit{Drop: none.Drop, Add: there.Add, Log: 13}, api.ErrNone},
		{edit.Edit{Add: there.Add, Log: 13}, api.ErrThere},
		{edit.Edit{Add: []api.Table{{}, {}}}, api.ErrThere},
		{edit.Edit{Add: []api.Table{table(0, 4, "", ""), table(0, 4, "", "")}}, api.ErrThere},
		{edit.Edit{Add: []api.Table{{N: 12}}}, api.ErrThere},
		{edit.Edit{Add: []api.Table{table(12, 4, "x", "y")}}, api.ErrThere},
		{edit.Edit{Add: []api.Table{table(12, -1, "x", "y")}}, api.ErrThere},
		{edit.Edit{Add: []api.Table{table(13, 1, "b", "b"), table(12, 1, "b", "b")}}, api.ErrThere},
		{edit.Edit{Add: []api.Table{{}, table(12, 1, "b", "b")}}, api.ErrThere},
		{edit.Edit{Add: []api.Table{table(1<<40+1, 1, "x", "x"), table(1<<40+1, 1, "x", "x")}, Next: 1<<40 + 2}, api.ErrThere},
		{edit.Edit{Add: []api.Table{{}}}, api.ErrArg},
		{edit.Edit{Add: []api.Table{{}}, Drop: []uint64{12}, Log: 13}, api.ErrArg},
	} {
		wantApply(t, "one edit", broad(), x.want, x.e)
		// Whatever stands behind it, and what goes well ahead of it.
		for _, behind := range []edit.Edit{none, there, wrong, {}} {
			wantApply(t, "one edit, and one behind", broad(), x.want, x.e, behind)
			wantApply(t, "one edit ahead", broad(), x.want, edit.Edit{Seq: 10}, x.e, behind)
		}
	}
}

// What comes of edits is not right: by its tables, by its numbers, at the last one, only in between.
func TestWhatComesOfIt(t *testing.T) {
	meets := edit.Edit{Add: []api.Table{table(13, 1, "a", "b")}, Next: 14}
	for what, edits := range map[string][]edit.Edit{
		"by its tables, at the last":   {{}, drop(1), meets},
		"by its tables, in between":    {meets, drop(13)},
		"by its tables, mended":        {meets, drop(5)},
		"by a number at Next":          {add(table(13, 1, "x", "y"))},
		"by a number at Next, mended":  {add(table(13, 1, "x", "y")), {Next: 14}},
		"by a number above Next":       {edit.Edit{Add: []api.Table{table(14, 1, "x", "y")}, Next: 14}},
		"by Seq":                       {edit.Edit{Add: []api.Table{{N: 13, Level: 1, Count: 1, Size: 1, First: "x", Last: "x", Least: 1, Most: 10}}, Next: 14}},
		"by Seq, mended":               {edit.Edit{Add: []api.Table{{N: 13, Level: 1, Count: 1, Size: 1, First: "x", Last: "x", Least: 1, Most: 10}}, Next: 14}, {Seq: 10}},
		"by Log":                       {{Log: 13}},
		"by Log above":                 {{Log: math.MaxUint64}},
		"by Log, mended":               {{Log: 13}, {Next: 14}},
		"by Log, at the last":          {{Next: 14}, {Log: 13}, {Log: 14}},
		"by Log with Next":             {{Log: 14, Next: 14}},
		"by Next":                      {{Next: 1<<40 + 2}},
		"by Next, the greatest":        {{Next: math.MaxUint64}},
		"by Next, which stays":         {{Next: 1<<40 + 2}, {Next: 1}, {}},
		"by Next, with Log below it":   {{Log: 1<<40 + 1, Next: 1<<40 + 2}},
		"by a table, gone at the next": {{Add: []api.Table{table(13, 4, "x", "y")}, Next: 14}, drop(13)},
	} {
		wantApply(t, what, broad(), api.ErrArg, edits...)
	}
	for what, edits := range map[string][]edit.Edit{
		"Log with Next":             {{Log: 13, Next: 14}},
		"Log as great as may be":    {{Log: 1 << 40, Next: 1<<40 + 1}},
		"Next as great as may be":   {{Next: 1<<40 + 1}},
		"Seq as great as may be":    {{Seq: math.MaxUint64}},
		"a number below Next":       {{Add: []api.Table{table(13, 1, "x", "y")}, Next: 14}},
		"a number that was left":    {{Next: 99}, add(table(50, 1, "x", "y"))},
		"Most at Seq":               {{Add: []api.Table{{N: 13, Level: 1, Count: 1, Size: 1, First: "x", Last: "x", Least: 10, Most: 10}}, Seq: 10, Next: 14}},
		"Most at Seq ahead of it":   {{Seq: 10}, {Add: []api.Table{{N: 13, Level: 1, Count: 1, Size: 1, First: "x", Last: "x", Least: 10, Most: 10}}, Next: 14}},
		"the greatest number there": {{Add: []api.Table{table(1<<40, 1, "x", "y")}, Next: 1<<40 + 1}},
	} {
		wantApply(t, what, broad(), api.OK, edits...)
	}
}

func TestGreaterNumbersStay(t *testing.T) {
	v := broad()
	v.Log, v.Seq, v.Next = 20, 30, 40
	for _, log := range []uint64{0, 19, 20, 21, 39} {
		for _, seq := range []uint64{0, 29, 30, 31, math.MaxUint64} {
			for _, next := range []uint64{0, 1, 39, 40, 41, 1<<40 + 1} {
				w := wantApply(t, "numbers", v, api.OK, edit.Edit{Log: log, Seq: seq, Next: next})
				if w.Log != max(20, log) || w.Seq != max(30, seq) || w.Next != max(40, next) {
					t.Errorf("%d, %d, %d: %s", log, seq, next, show(w))
				}
				wantApply(t, "numbers, one behind the other", v, api.OK, edit.Edit{Log: log}, edit.Edit{Seq: seq}, edit.Edit{Next: next}, edit.Edit{Log: 3, Seq: 3, Next: 3})
			}
		}
	}
}

// chanceEdit: one that may well be done to a version, and may well not.
func chanceEdit(m *numberMaker, v version.Version) edit.Edit {
	e := edit.Edit{Log: uint64(m.below(40)), Seq: uint64(m.below(20)), Next: uint64(m.below(45))}
	for _, s := range allStanding(v) {
		if m.below(4) == 0 {
			e.Drop = append(e.Drop, s.N)
		}
	}
	for range m.below(4) {
		first, last := chanceKeys(m)
		x := table(uint64(1+m.below(39)), m.below(4), first, last)
		x.Most = uint64(1 + m.below(10))
		e.Add = append(e.Add, x)
	}
	switch m.below(12) {
	case 0:
		e.Drop = append(e.Drop, uint64(m.below(50)))
	case 1:
		e.Log = uint64(m.below(50))
	case 2:
		first, last := chanceKeys(m)
		x := table(uint64(m.below(50)), m.below(5), first, last)
		changes := wrongChanges()
		changes[m.below(len(changes))].do(&x)
		e.Add = append(e.Add, x)
	}
	return e
}

// Edits that look like chance, done at once, one call behind the other, and in two calls.
func TestManyEdits(t *testing.T) {
	m := numberMaker(2)
	count := map[api.Errno]int{}
	for range 3000 {
		v := chanceVersion(&m, 14)
		var edits []edit.Edit
		w, errno := v, api.OK
		for range 1 + m.below(6) {
			e := chanceEdit(&m, w)
			edits = append(edits, e)
			next, why := applyByWords(w, e)
			if errno == api.OK {
				errno = why
			}
			count[why]++
			if why == api.OK {
				w = next
			}
		}
		got := wantApply(t, "edits that look like chance", v, errno, edits...)
		cut := m.below(len(edits) + 1)
		half, why := v.Apply(edits[:cut]...)
		if why == api.OK {
			half, why = half.Apply(edits[cut:]...)
		}
		if why != errno || !same(half, got) {
			t.Fatalf("in two calls: %s, %d; want %s, %d", show(half), why, show(got), errno)
		}
	}
	for _, errno := range []api.Errno{api.OK, api.ErrNone, api.ErrThere, api.ErrArg} {
		if count[errno] < 200 {
			t.Errorf("%d was answered %d times", errno, count[errno])
		}
	}
}

// key: keys that rise with their numbers.
func key(n int) string {
	digits := strconv.Itoa(n)
	return strings.Repeat("0", 8-len(digits)) + digits
}

// greatTables: so many, in a row that looks like chance.
func greatTables(m *numberMaker, count int) []api.Table {
	var out []api.Table
	for n := 1; n <= count; n++ {
		out = append(out, table(uint64(n), n%4, key(10*n), key(10*n+9)))
	}
	for i := range out {
		j := m.below(i + 1)
		out[i], out[j] = out[j], out[i]
	}
	return out
}

// So many tables and edits that a version worked out anew for each would take too long.
func TestVeryManyEdits(t *testing.T) {
	m := numberMaker(3)
	const count = 20000
	tables := greatTables(&m, count)
	var edits []edit.Edit
	for _, x := range tables {
		edits = append(edits, edit.Edit{Add: []api.Table{x}, Seq: 9, Next: x.N + 1})
	}
	want := version.Version{Levels: arranged(tables), Seq: 9, Next: count + 1}
	one, errno := version.New().Apply(edits...)
	if errno != api.OK || !same(one, want) {
		t.Fatalf("edit by edit: %d tables, %d", len(one.Tables()), errno)
	}
	two, errno := version.New().Apply(edit.Edit{Add: tables, Seq: 9, Next: count + 1})
	if errno != api.OK || !same(two, want) {
		t.Fatalf("at once: %d tables, %d", len(two.Tables()), errno)
	}
	var gone edit.Edit
	edits = nil
	for _, x := range greatTables(&m, count)[:count-9] {
		edits = append(edits, drop(x.N))
		gone.Drop = append(gone.Drop, x.N)
	}
	one, errno = one.Apply(edits...)
	if errno != api.OK || len(one.Tables()) != 9 {
		t.Fatalf("edit by edit gone: %d tables, %d", len(one.Tables()), errno)
	}
	two, errno = two.Apply(gone)
	if errno != api.OK || !same(one, two) {
		t.Fatalf("at once gone: %d tables, %d", len(two.Tables()), errno)
	}
}

// P14.1: Edit; P14.5

// wantEdit: what Edit tells, and what comes of it.
func wantEdit(t *testing.T, what string, v version.Version) {
	t.Helper()
	want := edit.Edit{Log: v.Log, Seq: v.Seq, Next: v.Next}
	for _, s := range allStanding(v) {
		want.Add = append(want.Add, s.Table)
	}
	e := v.Edit()
	if !sameEdit(e, want) {
		t.Errorf("Edit of %s: %v; want %v", what, e, want)
	}
	wantTables(t, "Tables of "+what, v.Tables(), want.Add)
	if !rightByWords(v) {
		return
	}
	if w, errno := version.New().Apply(e); errno != api.OK || !same(w, v) {
		t.Errorf("Edit of %s, done to New's: %s, %d; want %s", what, show(w), errno, show(v))
	}
	// It has what the record of one has.
	if errno := edit.Check(e); errno != api.OK {
		t.Errorf("Edit of %s may not be: %d", what, errno)
	}
}

func TestEdit(t *testing.T) {
	wantEdit(t, "New's", version.New())
	wantEdit(t, "the broad one", broad())
	wantEdit(t, "one with numbers alone", version.Version{Log: 7, Seq: 8, Next: 9})
	wantEdit(t, "one with the greatest numbers", version.Version{Log: 1 << 40, Seq: math.MaxUint64, Next: 1<<40 + 1})
	for level := range 4 {
		wantEdit(t, "one with a table", lay(table(3, level, "a", "b")))
		v := copyOf(broad())
		v.Levels[level] = nil
		wantEdit(t, "one without a level", v)
	}
	m := numberMaker(4)
	for range 1000 {
		wantEdit(t, "one that looks like chance", chanceVersion(&m, 30))
	}
	// These too are told as they are, though nothing comes of them.
	for what, v := range wrongVersions() {
		wantEdit(t, what, v)
	}
}

// P14.2

func TestTables(t *testing.T) {
	if got := (version.Version{}).Tables(); len(got) != 0 {
		t.Errorf("Tables of the zero one: %v", got)
	}
	wantNumbers(t, "Tables", broad().Tables(), "12 11 9 5 8 6 2 10 1 7 3 4")
	v := broad()
	v.Levels[1], v.Levels[2] = nil, []api.Table{}
	wantNumbers(t, "Tables", v.Tables(), "12 11 9 7 3 4")
}

func TestOverlap(t *testing.T) {
	for _, x := range []struct {
		level       int
		first, last string
		want        string
	}{
		// Level 1: b to d, f to h, j to l.
		{1, "\x00", "a\xff", ""}, {1, "a", "a", ""}, {1, "m", "z", ""}, {1, "l\x00", "\xff", ""}, {1, "e", "e", ""}, {1, "d\x00", "e\xff", ""}, {1, "h\x00", "i\xff\xff", ""},
		{1, "a", "b", "5"}, {1, "d", "e", "5"}, {1, "d", "d", "5"}, {1, "b", "b", "5"}, {1, "c", "c", "5"}, {1, "a", "e", "5"}, {1, "bb", "cc", "5"},
		{1, "h", "j", "8 6"}, {1, "h\x00", "j", "6"}, {1, "h", "i\xff", "8"}, {1, "l", "l", "6"}, {1, "l", "z", "6"}, {1, "e", "i", "8"},
		{1, "a", "z", "5 8 6"}, {1, "b", "l", "5 8 6"}, {1, "d", "j", "5 8 6"}, {1, "d", "f", "5 8"}, {1, "c", "g", "5 8"},
		{1, "z", "a", ""}, {1, "d", "c", ""}, {1, "c\x00", "c", ""}, {1, "g", "fz", ""},
		// Level 0: a to m, c to z, b to b.
		{0, "a", "a", "12"}, {0, "b", "b", "12 9"}, {0, "c", "c", "12 11"}, {0, "n", "z", "11"}, {0, "a", "z", "12 11 9"}, {0, "b", "c", "12 11 9"}, {0, "b\x00", "bz", "12"}, {0, "z\x00", "zz", ""}, {0, "z", "a", ""}, {0, "m", "a", ""},
		{2, "e", "e", "10"}, {2, "d", "f", "10"}, {2, "c", "i", "2 10 1"}, {3, "c", "c", ""}, {3, "b", "d", "7 3"}, {3, "a", "z", "7 3 4"},
		// No such level.
		{-1, "a", "z", ""}, {4, "a", "z", ""}, {5, "a", "z", ""}, {math.MinInt, "a", "z", ""}, {math.MaxInt, "a", "z", ""}, {1 << 32, "a", "z", ""},
		// The empty text is no key, and below all.
		{0, "", "", ""}, {1, "", "", ""}, {1, "", "z", "5 8 6"}, {1, "", "b", "5"}, {1, "", "a", ""}, {1, "a", "", ""}, {0, "", "a", "12"}, {0, "", "z", "12 11 9"}, {-1, "", "", ""}, {4, "", "", ""},
	} {
		wantNumbers(t, "Overlap "+strconv.Itoa(x.level)+", "+strconv.Quote(x.first)+", "+strconv.Quote(x.last), broad().Overlap(x.level, x.first, x.last), x.want)
		wantNumbers(t, "Overlap of New's", version.New().Overlap(x.level, x.first, x.last), "")
		if x.first == x.last && x.level >= 0 && x.level < 4 {
			wantNumbers(t, "Find on a level", onLevel(broad().Find(x.first), x.level), x.want)
		}
	}
}

// onLevel: those of a level.
func onLevel(tables []api.Table, level int) []api.Table {
	return slices.DeleteFunc(tables, func(t api.Table) bool { return t.Level != level })
}

// All ranges of few keys, against all small tables.
func TestAllSmallOverlaps(t *testing.T) {
	texts := append(smallKeys(), "", "\x00", "d", "a\x00\x00", "a\xff\x00", "b\x00")
	for level := range 4 {
		for _, x := range smallTables(3, level) {
			if x.First > x.Last {
				continue
			}
			v := lay(x)
			for _, first := range texts {
				for _, last := range texts {
					wantTables(t, "Overlap", v.Overlap(level, first, last), overlapByWords(v, level, first, last))
					wantTables(t, "Overlap of a level deeper", v.Overlap((level+1)%4, first, last), nil)
				}
				wantTables(t, "Find", v.Find(first), overlapByWords(v, level, first, first))
			}
		}
	}
}

// A text of more bytes than a key has is none: ranges of such ones have just those keys that lie between them.
func TestLongTexts(t *testing.T) {
	b := strings.Repeat("b", 64)
	v := lay(table(9, 0, "a", "c"), table(5, 1, "a", "b"), table(6, 1, b, b), table(7, 1, b[1:]+"c", "c"), table(8, 2, "\xff", strings.Repeat("\xff", 64)))
	for _, x := range []struct {
		first, last string
		want        string
	}{
		{b, b, "9 6"}, {b + "a", b + "z", ""}, {b + "a", b + "a", ""}, {b + "z", b + "a", ""}, {b, b + "a", "9 6"}, {b[1:], b + "a", "9 6"}, {b[1:], b[1:], "9"},
		{b + "a", b[1:] + "c", "9 7"}, {b + "a", b[1:] + "b\xff", ""}, {b + "a", "z", "9 7"}, {"", b + "a", "9 5 6"}, {"b\x00", b + "a", "9 6"},
		{b[1:] + "a\xff\xff", b + "\x00", "9 6"}, {b[1:] + "a\xff\xff", b[1:] + "a\xff\xff", ""},
		{strings.Repeat("\xff", 65), strings.Repeat("\xff", 70), ""}, {strings.Repeat("\xff", 64), strings.Repeat("\xff", 70), "8"}, {letters(1000), letters(1001), ""}, {letters(1000), "z", "9 5 6 7"},
	} {
		var got []api.Table
		for level := range 4 {
			got = append(got, v.Overlap(level, x.first, x.last)...)
		}
		wantNumbers(t, "Overlap of "+strconv.Quote(x.first)+", "+strconv.Quote(x.last), got, x.want)
	}
	for key, want := range map[string]string{b: "9 6", b + "b": "", b + "\x00": "", b[1:]: "9", letters(65): "", "a" + letters(63): "9 5", "a" + letters(64): "", strings.Repeat("\xff", 64): "8", strings.Repeat("\xff", 65): ""} {
		wantNumbers(t, "Find of "+strconv.Quote(key), v.Find(key), want)
	}
}

func TestFind(t *testing.T) {
	for key, want := range map[string]string{
		"": "", "\x00": "", "A": "", "a": "12 2 7", "a\x00": "12 2 7", "b": "12 9 5 2 7", "b\x00": "12 5 2", "c": "12 11 5 2", "d": "12 11 5 3", "e": "12 11 10 3", "e\x00": "12 11 3",
		"f": "12 11 8 3", "h": "12 11 8 3", "i": "12 11 1 3", "j": "12 11 6 1 3", "k": "12 11 6 1 3", "k\x00": "12 11 6 1", "l": "12 11 6 1", "m": "12 11 1 4", "n": "11 1 4", "o": "11 4", "z": "11 4", "z\x00": "", "\xff": "",
	} {
		wantNumbers(t, "Find of "+strconv.Quote(key), broad().Find(key), want)
		wantNumbers(t, "Find of New's", version.New().Find(key), "")
	}
	var tables []api.Table
	var want []string
	for n := uint64(50); n > 0; n-- {
		first := string([]byte{byte('a' + n%3)})
		tables = append(tables, table(n, 0, first, "m"))
		if n%3 != 2 {
			want = append(want, strconv.FormatUint(n, 10))
		}
	}
	wantNumbers(t, "Find among many on level 0", lay(append(tables, table(60, 3, "b", "b"))...).Find("b"), strings.Join(append(want, "60"), " "))
}

// Versions that look like chance: each key, each range.
func TestManyOverlaps(t *testing.T) {
	m := numberMaker(5)
	for range 1500 {
		v := chanceVersion(&m, 30)
		for range 10 {
			first, _ := chanceKeys(&m)
			_, last := chanceKeys(&m)
			var found []api.Table
			for level := -1; level <= 4; level++ {
				wantTables(t, "Overlap", v.Overlap(level, first, last), overlapByWords(v, level, first, last))
				found = append(found, overlapByWords(v, level, first, first)...)
			}
			wantTables(t, "Find", v.Find(first), found)
		}
	}
}

// P14.3

// many: so many tables on a level, of numbers from n on, with keys from which there is room to others'. Those of level 0 fall.
func many(count, level int, n uint64) []api.Table {
	var out []api.Table
	for i := range count {
		out = append(out, table(n+uint64(i), level, key(10*i), key(10*i+5)))
	}
	if level == 0 {
		slices.Reverse(out)
	}
	return out
}

func TestWhenThereIsAPlan(t *testing.T) {
	picked := map[int]int{}
	for _, zero := range []int{0, 1, 3, 4, 5, 9} {
		for _, one := range []int{0, 1, 4, 5, 6, 17} {
			for _, two := range []int{0, 5, 16, 17, 18} {
				for _, three := range []int{0, 1, 17, 100} {
					v := lay(slices.Concat(many(zero, 0, 300), many(one, 1, 200), many(two, 2, 100), many(three, 3, 400))...)
					want := -1
					var in []api.Table
					switch {
					case zero >= 4:
						want, in = 0, v.Levels[0]
					case one >= 5:
						want, in = 1, v.Levels[1][:1]
					case two >= 17:
						want, in = 2, v.Levels[2][:1]
					}
					picked[want]++
					p, ok := v.Pick()
					if ok != (want >= 0) || ok && p.Level != want || !ok && !samePlan(p, version.Plan{}) {
						t.Errorf("Pick with %d, %d, %d, %d: %v, %v", zero, one, two, three, p, ok)
					}
					wantTables(t, "In", p.In, in)
					wantPick(t, "many", v)
				}
			}
		}
	}
	if len(picked) != 4 {
		t.Errorf("picked: %v", picked)
	}
	for _, v := range []version.Version{version.New(), {}, broad()} {
		if p, ok := v.Pick(); ok || !samePlan(p, version.Plan{}) {
			t.Errorf("Pick of %s: %v, %v", show(v), p, ok)
		}
	}
}

// full: a version whose level 0 has four tables with keys from e to j, and others beside.
func full(others ...api.Table) version.Version {
	return lay(append([]api.Table{table(14, 0, "f", "g"), table(13, 0, "e", "f"), table(12, 0, "h", "j"), table(11, 0, "g", "g")}, others...)...)
}

func TestBelow(t *testing.T) {
	for _, x := range []struct {
		what   string
		others []api.Table
		want   string
		bottom bool
	}{
		{"none there", nil, "", true},
		{"none meets", []api.Table{table(1, 1, "a", "d"), table(2, 1, "k", "z")}, "", true},
		{"none meets, close by", []api.Table{table(1, 1, "a", "d\xff\xff"), table(2, 1, "j\x00", "z")}, "", true},
		{"all meet", []api.Table{table(1, 1, "d", "e"), table(2, 1, "f", "g"), table(3, 1, "gg", "gz"), table(4, 1, "j", "k")}, "1 2 3 4", true},
		{"some meet", []api.Table{table(1, 1, "a", "b"), table(2, 1, "d", "e"), table(3, 1, "j", "k"), table(4, 1, "l", "m")}, "2 3", true},
		{"one has all", []api.Table{table(1, 1, "a", "z")}, "1", true},
		// In has a gap from g to h, which is of its range.
		{"one in a gap of In", []api.Table{table(1, 1, "gg", "gh")}, "1", true},
		{"a deeper one meets In", []api.Table{table(1, 2, "f", "f")}, "", false},
		{"a deeper one meets In's end", []api.Table{table(1, 2, "j", "k")}, "", false},
		{"a deeper one meets In's beginning", []api.Table{table(1, 2, "a", "e")}, "", false},
		{"the deepest one meets In", []api.Table{table(1, 3, "f", "f")}, "", false},
		{"the deepest one in a gap of In", []api.Table{table(1, 3, "gg", "gh")}, "", false},
		{"deeper ones close by", []api.Table{table(1, 2, "a", "d\xff"), table(2, 2, "j\x00", "z"), table(3, 3, "d", "d"), table(4, 3, "k", "k")}, "", true},
		{"deeper ones beside Below", []api.Table{table(1, 1, "d", "l"), table(2, 2, "a", "c"), table(3, 2, "m", "z"), table(4, 3, "a", "b"), table(5, 3, "l\x00", "z")}, "1", true},
		{"a deeper one meets Below alone, behind", []api.Table{table(1, 1, "j", "l"), table(2, 2, "l", "m")}, "1", false},
		{"a deeper one meets Below alone, ahead", []api.Table{table(1, 1, "c", "e"), table(2, 2, "b", "c")}, "1", false},
		{"the deepest one meets Below alone", []api.Table{table(1, 1, "c", "e"), table(2, 3, "c", "d")}, "1", false},
		{"a deeper one between Below's", []api.Table{table(1, 1, "c", "e"), table(2, 1, "j", "l"), table(3, 2, "gg", "gg")}, "1 2", false},
		{"a deeper one beside the range, Below within", []api.Table{table(1, 1, "f", "f"), table(3, 2, "a", "d"), table(4, 3, "k", "z")}, "1", true},
		{"a deeper one meets a table of level 1 that is not Below", []api.Table{table(1, 1, "a", "b"), table(2, 2, "b", "c")}, "", true},
	} {
		v := full(x.others...)
		wantRight(t, x.what, v, true)
		p, ok := v.Pick()
		if !ok || p.Level != 0 || p.Bottom != x.bottom {
			t.Errorf("%s: level %d, Bottom %v, %v", x.what, p.Level, p.Bottom, ok)
		}
		wantNumbers(t, x.what+": In", p.In, "14 13 12 11")
		wantNumbers(t, x.what+": Below", p.Below, x.want)
		wantPick(t, x.what, v)
	}
}

// Plans of levels 1 and 2: what lies on the levels ahead of them says nothing.
func TestDeeperPlans(t *testing.T) {
	one := func(others ...api.Table) version.Version {
		return lay(append([]api.Table{table(11, 1, "e", "g"), table(12, 1, "h", "h"), table(13, 1, "i", "i"), table(14, 1, "j", "j"), table(15, 1, "k", "k")}, others...)...)
	}
	two := func(others ...api.Table) version.Version {
		tables := []api.Table{table(11, 2, "e", "g")}
		for i := range 16 {
			tables = append(tables, table(uint64(20+i), 2, "h"+key(i), "h"+key(i)))
		}
		return lay(append(tables, others...)...)
	}
	for _, x := range []struct {
		what   string
		v      version.Version
		level  int
		below  string
		bottom bool
	}{
		{"one alone", one(), 1, "", true},
		{"one, some below", one(table(1, 2, "a", "d"), table(2, 2, "d\x00", "e"), table(3, 2, "g", "i"), table(4, 2, "j", "k")), 1, "2 3", true},
		{"one, the deepest meets it", one(table(1, 3, "g", "g")), 1, "", false},
		{"one, the deepest meets what is below", one(table(1, 2, "g", "l"), table(2, 3, "l", "m")), 1, "1", false},
		{"one, the deepest meets others of level 1", one(table(1, 3, "h", "k")), 1, "", true},
		{"one, level 0 meets it", one(table(1, 0, "a", "z"), table(2, 3, "a", "d")), 1, "", true},
		{"two alone", two(), 2, "", true},
		{"two, some below", two(table(1, 3, "a", "e"), table(2, 3, "f", "f"), table(3, 3, "g\x00", "z")), 2, "1 2", true},
		{"two, others ahead", two(table(2, 0, "a", "z"), table(1, 1, "a", "z")), 2, "", true},
	} {
		wantRight(t, x.what, x.v, true)
		p, ok := x.v.Pick()
		if !ok || p.Level != x.level || p.Bottom != x.bottom {
			t.Errorf("%s: level %d, Bottom %v, %v", x.what, p.Level, p.Bottom, ok)
		}
		wantNumbers(t, x.what+": In", p.In, "11")
		wantNumbers(t, x.what+": Below", p.Below, x.below)
		wantPick(t, x.what, x.v)
	}
}

// P14.6

// chanceFull: a version that looks like chance, with a plan. Some have fewer levels, so that there are plans of each kind.
func chanceFull(m *numberMaker) version.Version {
	for {
		v := chanceVersion(m, 60)
		for level := range 4 {
			if m.below(2) == 0 {
				v.Levels[level] = v.Levels[level][:m.below(1+len(v.Levels[level]))]
			}
		}
		if _, ok := pickByWords(v); ok {
			return v
		}
	}
}

// chanceTables: tables of a level with keys from first to last that do not meet; first and last are keys of some of them.
func chanceTables(m *numberMaker, level int, n uint64, first, last string) []api.Table {
	keys := []string{first, last}
	for range m.below(8) {
		if k, _ := chanceKeys(m); first < k && k < last {
			keys = append(keys, k)
		}
	}
	slices.Sort(keys)
	keys = slices.Compact(keys)
	var out []api.Table
	for len(keys) > 0 {
		size := min(len(keys), 1+m.below(2))
		out = append(out, table(n+uint64(len(out)), level, keys[0], keys[size-1]))
		keys = keys[size:]
	}
	return out
}

// carryOut: a plan, and some tables that come in its stead.
func carryOut(t *testing.T, v version.Version, p version.Plan, tables []api.Table) {
	t.Helper()
	e := edit.Edit{Add: tables, Seq: 9, Next: v.Next + uint64(len(tables))}
	for _, x := range slices.Concat(p.In, p.Below) {
		e.Drop = append(e.Drop, x.N)
	}
	w := wantApply(t, "a plan carried out", v, api.OK, e)
	wantRight(t, "what a plan made", w, true)
	if !p.Bottom {
		return
	}
	for level := p.Level + 2; level < 4; level++ {
		for _, x := range tables {
			wantNumbers(t, "deeper than the bottom", w.Overlap(level, x.First, x.Last), "")
		}
	}
}

func TestPlansCarriedOut(t *testing.T) {
	m := numberMaker(6)
	count := map[int]int{}
	for range 1500 {
		v := chanceFull(&m)
		p := wantPick(t, "one that looks like chance", v)
		first, last := ends(slices.Concat(p.In, p.Below))
		carryOut(t, v, p, nil)
		carryOut(t, v, p, []api.Table{table(v.Next, p.Level+1, first, last)})
		carryOut(t, v, p, chanceTables(&m, p.Level+1, v.Next, first, last))
		count[p.Level]++
		if p.Bottom {
			count[10+p.Level]++
		}
		if len(p.Below) > 0 {
			count[20+p.Level]++
		}
	}
	for _, n := range []int{0, 1, 10, 20, 21} {
		if count[n] < 20 {
			t.Errorf("plans: %v", count)
		}
	}
}

// Plans carried out one behind the other, with new tables on level 0 meanwhile, come to an end.
func TestPlansInARow(t *testing.T) {
	m := numberMaker(7)
	v := version.New()
	levels := map[int]int{}
	for n := range 600 {
		first, last := chanceKeys(&m)
		v = wantApply(t, "a flush", v, api.OK, edit.Edit{Add: []api.Table{table(v.Next, 0, first, last)}, Seq: 9, Next: v.Next + 1})
		for rounds := 0; ; rounds++ {
			p := wantPick(t, "round "+strconv.Itoa(n), v)
			if len(p.In) == 0 {
				break
			}
			if rounds > 100 {
				t.Fatalf("plans come to no end: %s", show(v))
			}
			levels[p.Level]++
			first, last := ends(slices.Concat(p.In, p.Below))
			e := edit.Edit{Add: chanceTables(&m, p.Level+1, v.Next, first, last)}
			e.Next = v.Next + uint64(len(e.Add))
			for _, x := range slices.Concat(p.In, p.Below) {
				e.Drop = append(e.Drop, x.N)
			}
			v = wantApply(t, "a plan", v, api.OK, e)
		}
	}
	if levels[0] < 100 || levels[1] < 20 {
		t.Errorf("plans: %v", levels)
	}
}

// P14.4

// lies: does the memory of a text lie in that of another one?
func lies(text, in string) bool {
	if text == "" || in == "" {
		return false
	}
	begin, at := uintptr(unsafe.Pointer(unsafe.StringData(in))), uintptr(unsafe.Pointer(unsafe.StringData(text)))
	return begin <= at && at < begin+uintptr(len(in))
}

// spoil: all that a list has is changed, and what lies in its spare room.
func spoil(tables []api.Table) {
	tables = tables[:cap(tables)]
	for i := range tables {
		tables[i] = api.Table{N: 999, First: "spoiled"}
	}
}

// withSpare: the same, with spare room that has other tables.
func withSpare(tables []api.Table) []api.Table {
	return append(copied(tables), table(777, 7, "spare", "spare"))[:len(tables)]
}

// wantSpare: that a list's spare room is as withSpare made it.
func wantSpare(t *testing.T, what string, tables []api.Table) {
	t.Helper()
	if tables[:len(tables)+1][len(tables)] != table(777, 7, "spare", "spare") {
		t.Errorf("%s: the spare room of a list was changed", what)
	}
}

// answer: the lists of tables that a call tells.
type answer struct {
	what  string
	lists func(v version.Version, edits []edit.Edit) [][]api.Table
}

func answers() []answer {
	return []answer{
		{"Apply", func(v version.Version, edits []edit.Edit) [][]api.Table {
			w, _ := v.Apply(edits...)
			return w.Levels[:]
		}},
		{"Apply of none", func(v version.Version, _ []edit.Edit) [][]api.Table {
			w, _ := v.Apply()
			return w.Levels[:]
		}},
		{"Apply of one", func(v version.Version, edits []edit.Edit) [][]api.Table {
			w, _ := v.Apply(edits[0])
			return w.Levels[:]
		}},
		{"Apply with an error", func(v version.Version, edits []edit.Edit) [][]api.Table {
			w, _ := v.Apply(append(slices.Clone(edits), add(table(1, 0, "a", "b")))...)
			return w.Levels[:]
		}},
		{"Edit", func(v version.Version, _ []edit.Edit) [][]api.Table { return [][]api.Table{v.Edit().Add} }},
		{"Tables", func(v version.Version, _ []edit.Edit) [][]api.Table { return [][]api.Table{v.Tables()} }},
		{"Overlap", func(v version.Version, _ []edit.Edit) [][]api.Table {
			return [][]api.Table{v.Overlap(0, "a", "z"), v.Overlap(1, "a", "z"), v.Overlap(1, "e", "f")}
		}},
		{"Find", func(v version.Version, _ []edit.Edit) [][]api.Table {
			return [][]api.Table{v.Find("f"), v.Find("g")}
		}},
		{"Pick", func(v version.Version, _ []edit.Edit) [][]api.Table {
			p, _ := v.Pick()
			return [][]api.Table{p.In, p.Below}
		}},
		{"Right", func(v version.Version, _ []edit.Edit) [][]api.Table {
			v.Right()
			return nil
		}},
	}
}

// given: a version with a plan, and edits, all lists with spare room.
func given() (version.Version, []edit.Edit) {
	v := full(table(1, 1, "d", "e"), table(2, 1, "f", "gg"), table(3, 1, "k", "k"), table(4, 2, "ff", "z"), table(5, 3, "f", "f"))
	for level := range v.Levels {
		v.Levels[level] = withSpare(v.Levels[level])
	}
	return v, []edit.Edit{
		{Add: withSpare([]api.Table{table(20, 1, "m", "n"), table(21, 0, "f", "f"), table(22, 2, "a", "b")}), Drop: append([]uint64{14, 3, 4}, 777)[:3], Seq: 11},
		{Add: withSpare([]api.Table{table(23, 1, "o", "p")}), Drop: append([]uint64{20}, 777)[:1], Log: 5},
	}
}

// wantGiven: that what was handed in is as it was.
func wantGiven(t *testing.T, what string, v version.Version, edits []edit.Edit) {
	t.Helper()
	wantV, wantEdits := given()
	if !same(v, wantV) || !slices.EqualFunc(edits, wantEdits, sameEdit) {
		t.Errorf("%s: what was handed in is %s, %v; it was %s, %v", what, show(v), edits, show(wantV), wantEdits)
	}
	for _, tables := range v.Levels {
		wantSpare(t, what, tables)
	}
	for _, e := range edits {
		wantSpare(t, what, e.Add)
		if e.Drop[:len(e.Drop)+1][len(e.Drop)] != 777 {
			t.Errorf("%s: the spare room of Drop was changed", what)
		}
	}
}

func wantLists(t *testing.T, what string, got, want [][]api.Table) {
	t.Helper()
	if !slices.EqualFunc(got, want, slices.Equal[[]api.Table]) {
		t.Errorf("%s: %v; want %v", what, got, want)
	}
}

func copiedLists(lists [][]api.Table) [][]api.Table {
	var out [][]api.Table
	for _, l := range lists {
		out = append(out, copied(l))
	}
	return out
}

func TestWhatIsToldIsNewMemory(t *testing.T) {
	for _, x := range answers() {
		v, edits := given()
		one, two := x.lists(v, edits), x.lists(v, edits)
		wantGiven(t, x.what, v, edits)
		want := copiedLists(two)
		wantLists(t, x.what+", asked twice", one, want)
		// Each list alone is spoiled: no other one, nor what was handed in, is changed by that.
		for i := range one {
			spoil(one[i])
			wantGiven(t, x.what+", with a list of the answer spoiled", v, edits)
			wantLists(t, x.what+", with lists of another answer spoiled", two, want)
			wantLists(t, x.what+", with lists of the answer spoiled", one[i+1:], want[i+1:])
		}
		for _, tables := range v.Levels {
			spoil(tables)
		}
		for _, e := range edits {
			spoil(e.Add)
			for i := range e.Drop {
				e.Drop[i] = 999
			}
		}
		wantLists(t, x.what+", with what was handed in spoiled", two, want)
	}
}

// textsOf: the keys of some lists of tables.
func textsOf(lists ...[]api.Table) []string {
	var out []string
	for _, l := range lists {
		for _, t := range l {
			out = append(out, t.First, t.Last)
		}
	}
	return out
}

func TestTextsAreCopied(t *testing.T) {
	for _, x := range answers() {
		v, edits := given()
		// Longer ones: the library keeps texts of one byte once for all.
		lengthen := func(tables []api.Table) {
			for i := range tables {
				tables[i].First, tables[i].Last = tables[i].First+strings.Clone("\x00\x01"), tables[i].Last+strings.Clone("\x00\x02")
			}
		}
		were := [][]api.Table{edits[0].Add, edits[1].Add}
		for _, tables := range append(were, v.Levels[:]...) {
			lengthen(tables)
		}
		told := textsOf(x.lists(v, edits)...)
		others := append(textsOf(append(were, v.Levels[:]...)...), textsOf(x.lists(v, edits)...)...)
		for i, text := range told {
			for _, other := range slices.Concat(others, told[:i], told[i+1:]) {
				if lies(text, other) {
					t.Errorf("%s: %q lies in another text", x.what, text)
				}
			}
		}
	}
}

// A version that an edit was done to is asked for again, and is as it was: v is a value that stays.
func TestVersionsStay(t *testing.T) {
	m := numberMaker(8)
	var versions, were []version.Version
	v := version.New()
	for range 300 {
		if w, errno := v.Apply(chanceEdit(&m, v)); errno == api.OK {
			versions, were = append(versions, w), append(were, copyOf(w))
			v = versions[m.below(len(versions))]
		}
		v.Tables()
		v.Pick()
		v.Find("a")
		v.Overlap(1, "a", "z")
	}
	if len(versions) < 20 {
		t.Errorf("%d versions", len(versions))
	}
	for i, v := range versions {
		if !same(v, were[i]) {
			t.Errorf("version %d is %s; it was %s", i, show(v), show(were[i]))
		}
	}
}

// chanceTable: any numbers and texts.
func chanceTable(m *numberMaker) api.Table {
	numbers := []uint64{0, 1, 2, 3, 12, 1 << 40, 1<<40 + 1, math.MaxUint64}
	ints := []int{math.MinInt, -1, 0, 1, 2, 3, 4, math.MaxInt}
	texts := []string{"", "a", "b", "c", "\x00", "\xff", letters(64), letters(65), letters(300)}
	return api.Table{N: numbers[m.below(8)], Level: ints[m.below(8)], Count: ints[m.below(8)], Size: ints[m.below(8)],
		First: texts[m.below(9)], Last: texts[m.below(9)], Least: numbers[m.below(8)], Most: numbers[m.below(8)]}
}

// Of a version that is not right each call ends, and changes nothing.
func TestCallsOfWrongVersionsEnd(t *testing.T) {
	m := numberMaker(9)
	see := func(v version.Version) {
		was := copyOf(v)
		for level := -2; level < 6; level++ {
			for _, first := range []string{"", "a", "b", "\xff", letters(65)} {
				v.Overlap(level, first, "b")
				v.Overlap(level, "b", first)
				v.Overlap(level, first, first)
				v.Find(first)
			}
		}
		if p, ok := v.Pick(); !ok && !samePlan(p, version.Plan{}) {
			t.Errorf("Pick tells false and %v", p)
		}
		wantRight(t, "any", v, rightByWords(v))
		wantEdit(t, "any", v)
		wantApply(t, "any, to which an edit of its own is done", v, api.ErrArg, v.Edit())
		if !same(v, was) {
			t.Errorf("%s was %s", show(v), show(was))
		}
	}
	for _, v := range wrongVersions() {
		see(v)
	}
	for range 1500 {
		v := version.Version{Log: uint64(m.below(3)), Seq: uint64(m.below(3)), Next: uint64(m.below(3))}
		for level := range v.Levels {
			for range m.below(20) {
				v.Levels[level] = append(v.Levels[level], chanceTable(&m))
			}
		}
		if !rightByWords(v) {
			see(v)
		}
	}
	// Edits that are anything, done to right versions.
	for range 3000 {
		v := chanceVersion(&m, 10)
		var edits []edit.Edit
		for range m.below(4) {
			e := edit.Edit{Log: uint64(m.below(60)), Seq: uint64(m.below(60)), Next: uint64(m.below(60))}
			for range m.below(3) {
				e.Add = append(e.Add, chanceTable(&m))
			}
			edits = append(edits, e)
		}
		_, want := applyByWords(v, edits...)
		wantApply(t, "edits that are anything", v, want, edits...)
	}
}
