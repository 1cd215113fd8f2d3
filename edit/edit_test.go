package edit_test

import (
	"encoding/hex"
	"math"
	"slices"
	"strconv"
	"strings"
	"testing"
	"unsafe"

	"copyhold/api"
	"copyhold/edit"
)

// numberMaker: numbers that look like chance, the same ones in each run.
type numberMaker uint64

// below: a number from 0 on, below n.
func (m *numberMaker) below(n int) int {
	*m = *m*6364136223846793005 + 1442695040888963407
	return int(uint32(*m>>32)) % n
}

// of: one of some.
func (m *numberMaker) of(ns []uint64) uint64 { return ns[m.below(len(ns))] }

// letters: a text of so many bytes, no two of which side by side are alike.
func letters(size int) string {
	b := make([]byte, size)
	for i := range b {
		b[i] = byte('a' + i%26)
	}
	return string(b)
}

// head: so much of a text as a failure needs to show.
func head(s string) string { return s[:min(len(s), 60)] }

// fromHex: the bytes that some digits tell, blanks left out.
func fromHex(t *testing.T, digits string) string {
	t.Helper()
	row, err := hex.DecodeString(strings.ReplaceAll(digits, " ", ""))
	if err != nil {
		t.Fatal(err)
	}
	return string(row)
}

// table: the chapter's T, with another number.
func table(n uint64) api.Table {
	return api.Table{N: n, Level: 1, Count: 2, Size: 40, First: "a", Last: "b", Least: 5, Most: 9}
}

// tables: such ones of some numbers.
func tables(ns ...uint64) []api.Table {
	var out []api.Table
	for _, n := range ns {
		out = append(out, table(n))
	}
	return out
}

func same(a, b edit.Edit) bool {
	return slices.Equal(a.Add, b.Add) && slices.Equal(a.Drop, b.Drop) && a.Log == b.Log && a.Seq == b.Seq && a.Next == b.Next
}

// isZero: has it nothing?
func isZero(e edit.Edit) bool { return same(e, edit.Edit{}) }

// copyOf: the same, in memory of its own.
func copyOf(e edit.Edit) edit.Edit {
	e.Add, e.Drop = slices.Clone(e.Add), slices.Clone(e.Drop)
	for i := range e.Add {
		e.Add[i].First, e.Add[i].Last = strings.Clone(e.Add[i].First), strings.Clone(e.Add[i].Last)
	}
	return e
}

// What an edit's bytes are, by the words of chapters 1 and 13.

// numberRow: a number's bytes.
func numberRow(n uint64) string {
	if n < 248 {
		return string([]byte{byte(n)})
	}
	var low []byte
	for ; n > 0; n >>= 8 {
		low = append(low, byte(n))
	}
	slices.Reverse(low)
	return string([]byte{byte(247 + len(low))}) + string(low)
}

// longRow: a number in so many bytes behind the first one, which may be more than it needs.
func longRow(n uint64, width int) string {
	row := []byte{byte(247 + width)}
	for at := width - 1; at >= 0; at-- {
		row = append(row, byte(n>>(8*at)))
	}
	return string(row)
}

// piece: a number, or a text without its length.
type piece struct {
	isText bool
	n      uint64
	text   string
}

// row: a piece's bytes.
func (p piece) row() string {
	if p.isText {
		return p.text
	}
	return numberRow(p.n)
}

func numbers(ns ...uint64) []piece {
	var out []piece
	for _, n := range ns {
		out = append(out, piece{n: n})
	}
	return out
}

func text(s string) []piece {
	return []piece{{n: uint64(len(s))}, {isText: true, text: s}}
}

// piecesOf: what an edit's bytes are put together of, also if it may not be.
func piecesOf(e edit.Edit) []piece {
	out := numbers(uint64(len(e.Add)))
	for _, t := range e.Add {
		out = append(out, numbers(t.N, uint64(t.Level), uint64(t.Count), uint64(t.Size), t.Least, t.Most)...)
		out = append(append(out, text(t.First)...), text(t.Last)...)
	}
	out = append(append(out, numbers(uint64(len(e.Drop)))...), numbers(e.Drop...)...)
	return append(out, numbers(e.Log, e.Seq, e.Next)...)
}

func put(pieces []piece) string {
	var out strings.Builder
	for _, p := range pieces {
		out.WriteString(p.row())
	}
	return out.String()
}

func rowByWords(e edit.Edit) string { return put(piecesOf(e)) }

// mayByWords: whether a table is one that may come.
func mayByWords(t api.Table) bool {
	return !(t.N < 1 || t.N > 1<<40 || t.Level < 0 || t.Level > 3 || t.Count < 1 || t.Size < 1 ||
		len(t.First) < 1 || len(t.First) > 64 || len(t.Last) < 1 || len(t.Last) > 64 || strings.Compare(t.First, t.Last) > 0 ||
		t.Least < 1 || t.Least > t.Most)
}

// checkByWords: what Check has to answer.
func checkByWords(e edit.Edit) api.Errno {
	if slices.ContainsFunc(e.Add, func(t api.Table) bool { return !mayByWords(t) }) ||
		slices.ContainsFunc(e.Drop, func(n uint64) bool { return n < 1 || n > 1<<40 }) {
		return api.ErrArg
	}
	return api.OK
}

// cutNumber: the number that a text begins with, and what stands behind it.
func cutNumber(s string) (n uint64, rest string, ok bool) {
	if s == "" {
		return 0, "", false
	}
	size := 1
	if s[0] >= 248 {
		size = 1 + int(s[0]-247)
	}
	if len(s) < size {
		return 0, "", false
	}
	if size == 1 {
		return uint64(s[0]), s[1:], true
	}
	for _, b := range []byte(s[1:size]) {
		n = n*256 + uint64(b)
	}
	return n, s[size:], numberRow(n) == s[:size]
}

// readByWords: what Decode has to answer.
func readByWords(s string) (edit.Edit, bool) {
	ok, size := true, len(s)
	number := func() (n uint64) {
		var whole bool
		n, s, whole = cutNumber(s)
		ok = ok && whole
		return n
	}
	small := func() int {
		n := number()
		ok = ok && n < 1<<63
		return int(n & math.MaxInt)
	}
	words := func() (text string) {
		n := number()
		if ok = ok && n <= uint64(len(s)); ok {
			text, s = s[:n], s[n:]
		}
		return text
	}
	var e edit.Edit
	for n := number(); ok && n > 0; n-- {
		t := api.Table{N: number(), Level: small(), Count: small(), Size: small(), Least: number(), Most: number()}
		t.First = words()
		t.Last = words()
		e.Add = append(e.Add, t)
	}
	for n := number(); ok && n > 0; n-- {
		e.Drop = append(e.Drop, number())
	}
	e.Log, e.Seq, e.Next = number(), number(), number()
	if !ok || s != "" || size > 1<<19 || checkByWords(e) != api.OK {
		return edit.Edit{}, false
	}
	return e, true
}

// joinByWords: two edits joined.
func joinByWords(a, b edit.Edit) edit.Edit {
	out := edit.Edit{Log: max(a.Log, b.Log), Seq: max(a.Seq, b.Seq), Next: max(a.Next, b.Next)}
	for _, t := range a.Add {
		if !slices.Contains(b.Drop, t.N) {
			out.Add = append(out.Add, t)
		}
	}
	out.Add = append(out.Add, b.Add...)
	out.Drop = append(out.Drop, a.Drop...)
	for _, n := range b.Drop {
		if !slices.ContainsFunc(a.Add, func(t api.Table) bool { return t.N == n }) {
			out.Drop = append(out.Drop, n)
		}
	}
	return out
}

// joinAllByWords: many edits joined.
func joinAllByWords(edits []edit.Edit) edit.Edit {
	if len(edits) == 0 {
		return edit.Edit{}
	}
	out := edits[0]
	for _, e := range edits[1:] {
		out = joinByWords(out, e)
	}
	return out
}

// Edits that the tests go through.

// edges: numbers on both sides of where a row gets longer, and the greatest ones.
func edges() []uint64 {
	ns := []uint64{0, 1, 2, 126, 127, 128, 246, 247, 248, 249, 1<<40 - 1, 1<<40 + 1, 1<<63 - 1, 1 << 63, 1<<63 + 1, math.MaxUint64 - 1, math.MaxUint64}
	for k := 1; k < 8; k++ {
		ns = append(ns, 1<<(8*k)-1, 1<<(8*k), 1<<(8*k)+1)
	}
	return ns
}

// upTo: those from least to most.
func upTo(ns []uint64, least, most uint64) []uint64 {
	return slices.DeleteFunc(ns, func(n uint64) bool { return n < least || n > most })
}

// with: the chapter's T, changed.
func with(change func(t *api.Table)) api.Table {
	t := table(3)
	change(&t)
	return t
}

// soundTables: tables that may come, on all edges.
func soundTables() []api.Table {
	var out []api.Table
	for _, n := range upTo(edges(), 1, 1<<40) {
		out = append(out, table(n))
	}
	for level := range 4 {
		out = append(out, with(func(t *api.Table) { t.Level = level }))
	}
	for _, n := range upTo(edges(), 1, math.MaxInt) {
		out = append(out, with(func(t *api.Table) { t.Count = int(n) }), with(func(t *api.Table) { t.Size = int(n) }))
	}
	for _, n := range upTo(edges(), 1, math.MaxUint64) {
		out = append(out, with(func(t *api.Table) { t.Least, t.Most = n, n }), with(func(t *api.Table) { t.Least, t.Most = 1, n }),
			with(func(t *api.Table) { t.Least, t.Most = n, math.MaxUint64 }))
	}
	for _, keys := range [][2]string{{"a", "a"}, {"a", "aa"}, {"\x00", "\x00\x00"}, {"\x00", "\xff"}, {"\xff", "\xff"}, {"\x7f", "\x80"},
		{letters(64), letters(64)}, {letters(63), letters(64)}, {letters(1), letters(64)}, {letters(64), "b"}, {"\xff\x00", "\xff\x01"}} {
		out = append(out, with(func(t *api.Table) { t.First, t.Last = keys[0], keys[1] }))
	}
	return out
}

// soundEdits: edits that may be, on all edges.
func soundEdits() []edit.Edit {
	out := []edit.Edit{{}, {Add: []api.Table{}, Drop: []uint64{}}, {Drop: []uint64{7}, Log: 1, Seq: 9, Next: 4}, {Add: tables(3)}}
	for _, t := range soundTables() {
		out = append(out, edit.Edit{Add: []api.Table{t}}, edit.Edit{Add: []api.Table{table(9), t}, Drop: []uint64{t.N}, Log: 5})
	}
	for _, n := range upTo(edges(), 1, 1<<40) {
		out = append(out, edit.Edit{Drop: []uint64{n}}, edit.Edit{Drop: []uint64{1, n, 2}})
	}
	for _, n := range edges() {
		out = append(out, edit.Edit{Log: n}, edit.Edit{Seq: n}, edit.Edit{Next: n}, edit.Edit{Add: tables(1), Drop: []uint64{2}, Log: n, Seq: n, Next: n})
	}
	for _, count := range []int{1, 2, 3, 127, 128, 247, 248, 255, 256, 300} {
		out = append(out, edit.Edit{Add: slices.Repeat(tables(4), count)}, edit.Edit{Drop: slices.Repeat([]uint64{300}, count)},
			edit.Edit{Add: slices.Repeat(tables(4, 5), count), Drop: slices.Repeat([]uint64{4}, count), Log: 1, Seq: 2, Next: 3})
	}
	return append(out, edit.Edit{Add: soundTables(), Drop: upTo(edges(), 1, 1<<40), Log: 1, Seq: math.MaxUint64, Next: 300})
}

// wrongTables: tables each of which may not come for one reason alone, by what it is.
func wrongTables() map[string]api.Table {
	out := map[string]api.Table{}
	add := func(what string, change func(t *api.Table)) { out[what] = with(change) }
	for _, n := range []uint64{0, 1<<40 + 1, 1<<40 + 2, 1 << 41, 1<<63 - 1, 1 << 63, math.MaxUint64} {
		add("N "+strconv.FormatUint(n, 10), func(t *api.Table) { t.N = n })
	}
	for _, n := range []int{math.MinInt, -2, -1, 4, 5, 256, 1 << 32, math.MaxInt} {
		add("Level "+strconv.Itoa(n), func(t *api.Table) { t.Level = n })
	}
	for _, n := range []int{math.MinInt, math.MinInt + 1, -1 << 32, -1, 0} {
		add("Count "+strconv.Itoa(n), func(t *api.Table) { t.Count = n })
		add("Size "+strconv.Itoa(n), func(t *api.Table) { t.Size = n })
	}
	add("First empty", func(t *api.Table) { t.First = "" })
	add("Last empty", func(t *api.Table) { t.Last = "" })
	add("both empty", func(t *api.Table) { t.First, t.Last = "", "" })
	for _, size := range []int{65, 66, 128, 247, 248, 1000} {
		add("First of "+strconv.Itoa(size), func(t *api.Table) { t.First = letters(size) })
		add("Last of "+strconv.Itoa(size), func(t *api.Table) { t.Last = "b" + letters(size-1) })
		add("both of "+strconv.Itoa(size), func(t *api.Table) { t.First, t.Last = letters(size), letters(size) })
	}
	for _, keys := range [][2]string{{"c", "b"}, {"bb", "b"}, {"b\x00", "b"}, {"\xff", "\x00"}, {"\x80", "\x7f"}, {"\x00\x00", "\x00"}, {"\xff\x01", "\xff\x00"}, {"b", letters(64)}, {letters(64), letters(63)}} {
		add("keys "+hex.EncodeToString([]byte(keys[0]))+" "+hex.EncodeToString([]byte(keys[1])), func(t *api.Table) { t.First, t.Last = keys[0], keys[1] })
	}
	for _, ns := range [][2]uint64{{0, 9}, {0, 0}, {0, math.MaxUint64}, {10, 9}, {2, 1}, {1, 0}, {math.MaxUint64, 9}, {math.MaxUint64, math.MaxUint64 - 1}, {1 << 63, 1<<63 - 1}, {math.MaxUint64, 0}} {
		add("numbers "+strconv.FormatUint(ns[0], 10)+" "+strconv.FormatUint(ns[1], 10), func(t *api.Table) { t.Least, t.Most = ns[0], ns[1] })
	}
	return out
}

// wrongNumbers: numbers that Drop may not have.
func wrongNumbers() []uint64 {
	return []uint64{0, 1<<40 + 1, 1<<40 + 2, 1 << 41, 1<<63 - 1, 1 << 63, math.MaxUint64 - 1, math.MaxUint64}
}

// wantCheck: what Check answers, and Encode of an edit that is not too long.
func wantCheck(t *testing.T, what string, e edit.Edit, want api.Errno) {
	t.Helper()
	if got := edit.Check(e); got != want {
		t.Errorf("Check of %s: %d; want %d", what, got, want)
	}
	wantRow := ""
	if want == api.OK {
		wantRow = rowByWords(e)
	}
	wantEncode(t, what, e, wantRow, want)
}

func wantEncode(t *testing.T, what string, e edit.Edit, wantRow string, want api.Errno) {
	t.Helper()
	if row, errno := edit.Encode(e); row != wantRow || errno != want {
		t.Errorf("Encode of %s: %x (%d bytes), %d; want %x (%d bytes), %d", what, head(row), len(row), errno, head(wantRow), len(wantRow), want)
	}
}

func wantDecode(t *testing.T, s string, want edit.Edit) {
	t.Helper()
	if got, ok := edit.Decode(s); !ok || !same(got, want) {
		t.Errorf("Decode of %x (%d bytes): %d tables, %d numbers, %d, %d, %d, %v; want the edit of %d tables, %d numbers, %d, %d, %d, true", head(s), len(s),
			len(got.Add), len(got.Drop), got.Log, got.Seq, got.Next, ok, len(want.Add), len(want.Drop), want.Log, want.Seq, want.Next)
	}
}

func wantNoDecode(t *testing.T, what, s string) {
	t.Helper()
	if got, ok := edit.Decode(s); ok || !isZero(got) {
		t.Errorf("Decode of %s, %x (%d bytes): %d tables, %d numbers, %d, %d, %d, %v; want the zero edit, false", what, head(s), len(s), len(got.Add), len(got.Drop), got.Log, got.Seq, got.Next, ok)
	}
}

// wantByWords: what Decode answers is what the reader by the words does.
func wantByWords(t *testing.T, what, s string) bool {
	t.Helper()
	want, ok := readByWords(s)
	if ok {
		wantDecode(t, s, want)
	} else {
		wantNoDecode(t, what, s)
	}
	return ok
}

// The examples.

func TestExampleBytes(t *testing.T) {
	for _, x := range []struct {
		e      edit.Edit
		digits string
	}{
		{edit.Edit{}, "00 00 00 00 00"},
		{edit.Edit{Drop: []uint64{7}, Log: 1, Seq: 9, Next: 4}, "00 01 07 01 09 04"},
		{edit.Edit{Add: tables(3)}, "01 03 01 02 28 05 09 01 61 01 62 00 00 00 00"},
		// All there is, once: each field has another number.
		{edit.Edit{Add: []api.Table{{N: 1 << 40, Level: 3, Count: 248, Size: 65536, First: "\x00", Last: "\xff\x00", Least: 247, Most: 1 << 63}, table(1)}, Drop: []uint64{255, 1, 256}, Log: math.MaxUint64, Seq: 128, Next: 127},
			"02 fd010000000000 03 f8f8 fa010000 f7 ff8000000000000000 01 00 02 ff00 01 01 02 28 05 09 01 61 01 62 03 f8ff 01 f90100 ffffffffffffffffff 80 7f"},
	} {
		s := fromHex(t, x.digits)
		wantEncode(t, x.digits, x.e, s, api.OK)
		wantDecode(t, s, x.e)
		for i := range len(s) {
			wantNoDecode(t, "a beginning", s[:i])
		}
		for b := range 256 {
			wantNoDecode(t, "one byte more", s+string([]byte{byte(b)}))
		}
	}
}

func TestExampleChecks(t *testing.T) {
	wantCheck(t, "a number 0", edit.Edit{Drop: []uint64{0}}, api.ErrArg)
	wantCheck(t, "level 4", edit.Edit{Add: []api.Table{with(func(t *api.Table) { t.Level = 4 })}}, api.ErrArg)
	wantCheck(t, "First c", edit.Edit{Add: []api.Table{with(func(t *api.Table) { t.First = "c" })}}, api.ErrArg)
}

func TestExampleJoins(t *testing.T) {
	wantJoin(t, edit.Edit{Drop: []uint64{7}, Next: 4}, edit.Edit{Add: tables(3), Next: 4}, edit.Edit{Drop: []uint64{3, 7}, Next: 2})
	wantJoin(t, edit.Edit{})
}

// P13.1

func TestEditsThatMayBe(t *testing.T) {
	for i, e := range soundEdits() {
		wantCheck(t, "edit "+strconv.Itoa(i)+", which may be", e, api.OK)
	}
}

func TestTablesThatMayNotCome(t *testing.T) {
	for what, x := range wrongTables() {
		wantCheck(t, what, edit.Edit{Add: []api.Table{x}}, api.ErrArg)
		wantCheck(t, what+" and a number", edit.Edit{Add: []api.Table{x}, Drop: []uint64{1}, Log: 1, Seq: 2, Next: 3}, api.ErrArg)
		for _, at := range []int{0, 1, 4, 8, 9} {
			add := slices.Repeat(tables(6), 10)
			add[at] = x
			wantCheck(t, what+" at place "+strconv.Itoa(at), edit.Edit{Add: add}, api.ErrArg)
		}
	}
}

func TestNumbersThatMayNotGo(t *testing.T) {
	for _, n := range wrongNumbers() {
		what := strconv.FormatUint(n, 10)
		wantCheck(t, what, edit.Edit{Drop: []uint64{n}}, api.ErrArg)
		wantCheck(t, what+" and a table", edit.Edit{Add: tables(1), Drop: []uint64{n}}, api.ErrArg)
		for _, at := range []int{0, 1, 4, 8, 9} {
			drop := slices.Repeat([]uint64{6}, 10)
			drop[at] = n
			wantCheck(t, what+" at place "+strconv.Itoa(at), edit.Edit{Add: tables(1, 2), Drop: drop}, api.ErrArg)
		}
	}
}

// Each field's values on both sides of each edge, one with another.
func TestFieldsOneWithAnother(t *testing.T) {
	var changes []func(t *api.Table)
	for _, n := range []uint64{0, 1, 2, 1<<40 - 1, 1 << 40, 1<<40 + 1, math.MaxUint64} {
		changes = append(changes, func(t *api.Table) { t.N = n }, func(t *api.Table) { t.Least = n }, func(t *api.Table) { t.Most = n })
	}
	for _, n := range []int{math.MinInt, -1, 0, 1, 2, 3, 4, math.MaxInt} {
		changes = append(changes, func(t *api.Table) { t.Level = n }, func(t *api.Table) { t.Count = n }, func(t *api.Table) { t.Size = n })
	}
	for _, s := range []string{"", "\x00", "a", "a\x00", "aa", "a\xff", "b", "\xff", letters(63), letters(64), letters(65), "\xff" + letters(63), "\xff" + letters(64)} {
		changes = append(changes, func(t *api.Table) { t.First = s }, func(t *api.Table) { t.Last = s })
	}
	for _, one := range changes {
		for _, other := range changes {
			e := edit.Edit{Add: []api.Table{with(func(t *api.Table) { one(t); other(t) })}}
			wantCheck(t, "a table with "+hex.EncodeToString([]byte(rowByWords(e))), e, checkByWords(e))
		}
	}
}

func TestLengthsOfKeys(t *testing.T) {
	sizes := []int{0, 1, 2, 63, 64, 65, 66, 200}
	for _, first := range sizes {
		for _, last := range sizes {
			// Other bytes at the beginning: which one is above the other does not hang on the lengths.
			for _, begin := range []string{"", "b", "\xff"} {
				key := begin + letters(last)
				e := edit.Edit{Add: []api.Table{with(func(t *api.Table) { t.First, t.Last = letters(first), key[:last] })}}
				wantCheck(t, "First of "+strconv.Itoa(first)+" and Last of "+strconv.Itoa(last), e, checkByWords(e))
			}
		}
	}
}

// Nothing is asked but what the words name.
func TestWhatIsNotAskedFor(t *testing.T) {
	for what, e := range map[string]edit.Edit{
		"the zero edit":               {},
		"empty lists":                 {Add: []api.Table{}, Drop: []uint64{}},
		"a table twice":               {Add: tables(3, 3)},
		"a number twice":              {Drop: []uint64{3, 3}},
		"a number in both":            {Add: tables(3), Drop: []uint64{3}},
		"a number twice in both":      {Add: tables(3, 4, 3), Drop: []uint64{3, 4, 3}},
		"Next below a table's number": {Add: tables(300), Next: 1},
		"Seq below Most":              {Add: tables(3), Seq: 8},
		"Log above Next":              {Log: 9, Next: 3},
		"numbers above MaxNumber":     {Log: math.MaxUint64, Seq: math.MaxUint64, Next: math.MaxUint64},
		"tables that meet":            {Add: []api.Table{table(1), with(func(t *api.Table) { t.First, t.Last = "a", "z" })}},
		"falling keys":                {Add: []api.Table{with(func(t *api.Table) { t.First, t.Last = "x", "z" }), table(1)}},
	} {
		wantCheck(t, what, e, api.OK)
	}
}

// byTables: an edit of just so many bytes, most of them tables'.
func byTables(size int) edit.Edit {
	long := with(func(t *api.Table) { t.First, t.Last = letters(64), letters(64) })
	width := len(rowByWords(edit.Edit{Add: []api.Table{long}})) - len(rowByWords(edit.Edit{}))
	// Three bytes say how many there are, four numbers come behind them.
	left := size - 3 - 4
	e := edit.Edit{Add: slices.Repeat([]api.Table{long}, left/width-1)}
	left -= len(e.Add) * width
	// Of two tables more the keys are as long as is needed.
	for _, part := range []int{left / 2, left - left/2} {
		keys := part - 8
		e.Add = append(e.Add, with(func(t *api.Table) { t.First, t.Last = letters(keys/2), letters(keys-keys/2) }))
	}
	return e
}

// byNumbers: one of just so many bytes, most of them numbers'.
func byNumbers(size int) edit.Edit {
	e := edit.Edit{Drop: []uint64{248}}
	// Four bytes say how many there are, one how many tables, three come behind.
	for range size - 8 - 2 {
		e.Drop = append(e.Drop, 247)
	}
	return e
}

func TestHowLong(t *testing.T) {
	const most = 1 << 19
	for _, size := range []int{most - 2, most - 1, most, most + 1, most + 2, most + 500, 2 * most} {
		for what, e := range map[string]edit.Edit{"tables": byTables(size), "numbers": byNumbers(size)} {
			row := rowByWords(e)
			if len(row) != size {
				t.Fatalf("%s of %d bytes; want %d", what, len(row), size)
			}
			what += " of " + strconv.Itoa(size) + " bytes"
			if errno := edit.Check(e); errno != api.OK {
				t.Errorf("Check of %s: %d", what, errno)
			}
			if size <= most {
				wantEncode(t, what, e, row, api.OK)
				wantDecode(t, row, e)
			} else {
				wantEncode(t, what, e, "", api.ErrLong)
				wantNoDecode(t, what, row)
			}
		}
	}
}

// The last three numbers, too, may be what is too much.
func TestHowLongByTheLastNumbers(t *testing.T) {
	for _, change := range []func(e *edit.Edit, n uint64){
		func(e *edit.Edit, n uint64) { e.Log = n }, func(e *edit.Edit, n uint64) { e.Seq = n }, func(e *edit.Edit, n uint64) { e.Next = n },
	} {
		e := byNumbers(1<<19 - 2)
		change(&e, 65535)
		wantEncode(t, "MaxRecord bytes", e, rowByWords(e), api.OK)
		change(&e, 65536)
		wantEncode(t, "MaxRecord + 1 bytes", e, "", api.ErrLong)
	}
}

func TestWrongAndTooLong(t *testing.T) {
	for _, size := range []int{1 << 19, 1<<19 + 1, 1 << 20} {
		for _, wrong := range []edit.Edit{{Drop: []uint64{0}}, {Add: []api.Table{{}}}} {
			for _, e := range []edit.Edit{byTables(size), byNumbers(size)} {
				e.Add, e.Drop = append(e.Add, wrong.Add...), append(e.Drop, wrong.Drop...)
				wantCheck(t, "what is too long and may not be", e, api.ErrArg)
			}
		}
	}
}

// P13.2

func TestDecodeOfSoundEdits(t *testing.T) {
	for _, e := range soundEdits() {
		wantDecode(t, rowByWords(e), e)
	}
}

// cutSome: edits whose bytes are few enough to be gone through one by one.
func cutSome() []edit.Edit {
	return []edit.Edit{
		{}, {Drop: []uint64{7}, Log: 1, Seq: 9, Next: 4}, {Add: tables(3)}, {Log: 248, Seq: 1 << 63, Next: math.MaxUint64},
		{Add: tables(1, 2), Drop: []uint64{300, 1 << 40, 5}, Log: 127, Seq: 128, Next: 300},
		{Add: []api.Table{{N: 1 << 40, Level: 3, Count: math.MaxInt, Size: math.MaxInt, First: letters(63), Last: letters(64), Least: math.MaxUint64, Most: math.MaxUint64}}, Drop: []uint64{1}},
		{Add: []api.Table{{N: 248, Count: 1, Size: 1 << 20, First: "\x00", Last: "\xff\xff", Least: 1, Most: 1 << 63}, table(7)}, Drop: slices.Repeat([]uint64{9}, 20), Seq: 256},
		{Drop: append(slices.Repeat([]uint64{2}, 247), 1<<33), Next: 9},
	}
}

func TestBytesCutShort(t *testing.T) {
	for _, e := range cutSome() {
		row := rowByWords(e)
		for i := range len(row) {
			wantNoDecode(t, "a beginning", row[:i])
		}
		for i := 1; i < len(row); i++ {
			wantByWords(t, "an end", row[i:])
		}
	}
}

func TestBytesWithMoreBehind(t *testing.T) {
	for _, e := range cutSome() {
		row := rowByWords(e)
		for b := range 256 {
			wantNoDecode(t, "one byte more", row+string([]byte{byte(b)}))
		}
		for _, more := range []string{"\x00\x00", "\x00\x00\x00\x00\x00", row, "\xff\xff\xff\xff\xff\xff\xff\xff\xff", letters(300)} {
			wantNoDecode(t, "more behind", row+more)
		}
	}
}

func TestBytesChanged(t *testing.T) {
	for _, e := range cutSome() {
		row := rowByWords(e)
		for at := range len(row) {
			for b := range 256 {
				s := row[:at] + string([]byte{byte(b)}) + row[at+1:]
				if wantByWords(t, "a byte changed", s); s != row {
					if got, ok := edit.Decode(s); ok && same(got, e) {
						t.Errorf("%x is the same edit's as %x", head(s), head(row))
					}
				}
			}
			wantByWords(t, "a byte left out", row[:at]+row[at+1:])
			wantByWords(t, "a byte twice", row[:at+1]+row[at:])
		}
	}
}

func TestNoBytes(t *testing.T) {
	wantNoDecode(t, "no bytes", "")
	for size := range 40 {
		for _, b := range []string{"\x00", "\x01", "\xf7", "\xf8", "\xff"} {
			// Five bytes 0 are the zero edit's; sixteen bytes 1 one of a table and a number.
			if wantByWords(t, "bytes that are alike", strings.Repeat(b, size)) != (b == "\x00" && size == 5 || b == "\x01" && size == 16) {
				t.Errorf("%d bytes %x", size, b)
			}
		}
	}
}

// Counts that are other than what follows says.
func TestCounts(t *testing.T) {
	e := edit.Edit{Add: tables(3, 4), Drop: []uint64{7, 8, 9}, Log: 1, Seq: 2, Next: 3}
	pieces := piecesOf(e)
	dropAt := len(pieces) - 3 - len(e.Drop) - 1
	for _, at := range []int{0, dropAt} {
		for _, n := range append(edges(), 3, 4, 5, 6, 7, 10, 1<<19, 1<<20, 1<<31, 1<<32) {
			forged := slices.Clone(pieces)
			forged[at].n = n
			if wantByWords(t, "a count that was forged", put(forged)) != (n == pieces[at].n) {
				t.Errorf("count %d at piece %d", n, at)
			}
		}
	}
	for _, n := range edges() {
		for _, rest := range []string{"", "\x00", "\x01\x01", letters(100)} {
			wantByWords(t, "a count alone", numberRow(n)+rest)
			wantByWords(t, "a count of numbers alone", "\x00"+numberRow(n)+rest)
		}
	}
}

// A number in another form than the shortest is none.
func TestLongForms(t *testing.T) {
	for _, e := range cutSome() {
		pieces := piecesOf(e)
		for at, p := range pieces {
			if p.isText {
				continue
			}
			before, behind := put(pieces[:at]), put(pieces[at+1:])
			for width := 1; width <= 8; width++ {
				if width < 8 && p.n>>(8*width) != 0 {
					continue
				}
				row := longRow(p.n, width)
				if s := before + row + behind; row == numberRow(p.n) {
					wantDecode(t, s, e)
				} else {
					wantNoDecode(t, "a number in "+strconv.Itoa(width)+" bytes", s)
				}
			}
		}
	}
}

// Numbers of each size at each place where one may stand.
func TestNumbersAtEachPlace(t *testing.T) {
	e := edit.Edit{Add: tables(3), Drop: []uint64{7}, Log: 1, Seq: 2, Next: 3}
	pieces := piecesOf(e)
	for at, p := range pieces {
		if p.isText {
			continue
		}
		for _, n := range append(edges(), 3, 4, 5, 9, 10, 63, 64, 65, 1<<32, 1<<62) {
			forged := slices.Clone(pieces)
			forged[at].n = n
			wantByWords(t, "another number at piece "+strconv.Itoa(at), put(forged))
		}
	}
}

// What no int holds is no level, no count and no size, whatever an int would make of it.
func TestNumbersAboveInts(t *testing.T) {
	pieces := piecesOf(edit.Edit{Add: tables(3)})
	for at := 2; at <= 4; at++ {
		for _, n := range []uint64{1 << 63, 1<<63 + 1, 1<<63 + 2, 1<<63 + 40, math.MaxUint64 - 1, math.MaxUint64} {
			forged := slices.Clone(pieces)
			forged[at].n = n
			wantNoDecode(t, "piece "+strconv.Itoa(at)+" above an int", put(forged))
		}
	}
	for at := 3; at <= 4; at++ {
		forged := slices.Clone(pieces)
		forged[at].n = math.MaxInt
		if _, ok := edit.Decode(put(forged)); !ok {
			t.Errorf("the greatest int is not read at piece %d", at)
		}
	}
}

func TestDecodeOfWhatMayNotBe(t *testing.T) {
	for what, x := range wrongTables() {
		wantNoDecode(t, what, rowByWords(edit.Edit{Add: []api.Table{x}}))
		wantNoDecode(t, what+" at the end", rowByWords(edit.Edit{Add: append(tables(1, 2), x), Drop: []uint64{1}, Log: 1, Seq: 2, Next: 3}))
		wantNoDecode(t, what+" at the beginning", rowByWords(edit.Edit{Add: append([]api.Table{x}, tables(1, 2)...)}))
	}
	for _, n := range wrongNumbers() {
		what := strconv.FormatUint(n, 10)
		wantNoDecode(t, what, rowByWords(edit.Edit{Drop: []uint64{n}}))
		wantNoDecode(t, what+" at the end", rowByWords(edit.Edit{Add: tables(1), Drop: []uint64{1, 2, n}, Log: 1}))
		wantNoDecode(t, what+" at the beginning", rowByWords(edit.Edit{Add: tables(1), Drop: []uint64{n, 1, 2}}))
	}
}

// Texts that are longer than what is left, or than a key may be.
func TestTextsThatAreTooLong(t *testing.T) {
	pieces := piecesOf(edit.Edit{Add: tables(3)})
	firstAt := 7
	for _, at := range []int{firstAt, firstAt + 2} {
		for _, n := range append(edges(), 3, 5, 6, 7, 8, 64, 65) {
			forged := slices.Clone(pieces)
			forged[at].n = n
			s := put(forged)
			wantByWords(t, "a text of another length", s)
			// Cut where the text begins, and with more behind it.
			wantNoDecode(t, "a text that is not there", put(forged[:at+1]))
			wantByWords(t, "a text with more behind", s+letters(70))
		}
	}
}

// As many bytes as there may be, and the same ones cut far behind.
func TestLongBytesCutShort(t *testing.T) {
	const most = 1 << 19
	for _, e := range []edit.Edit{byTables(most), byNumbers(most)} {
		row := rowByWords(e)
		wantDecode(t, row, e)
		for _, less := range []int{1, 2, 3, 4, 5, 100, 300, most / 2} {
			wantNoDecode(t, "a beginning", row[:most-less])
		}
		wantNoDecode(t, "a byte too many", row+"\x00")
		// The same length, one number the less: the byte that is left over is no edit's.
		forged := []byte(row)
		forged[most-1] = 248
		wantNoDecode(t, "a number cut short", string(forged))
	}
}

// P13.3

// wantJoin: what some edits joined are; what was handed in stays.
func wantJoin(t *testing.T, want edit.Edit, edits ...edit.Edit) {
	t.Helper()
	var before []edit.Edit
	for _, e := range edits {
		before = append(before, copyOf(e))
	}
	if got := edit.Join(edits...); !same(got, want) {
		t.Errorf("Join of %v: %v; want %v", before, got, want)
	}
	if !slices.EqualFunc(edits, before, same) {
		t.Errorf("what was handed in: %v; it was %v", edits, before)
	}
}

func TestJoinOfOneAndOfNone(t *testing.T) {
	wantJoin(t, edit.Edit{})
	wantJoin(t, edit.Edit{}, edit.Edit{})
	wantJoin(t, edit.Edit{}, make([]edit.Edit, 9)...)
	for _, e := range soundEdits() {
		wantJoin(t, e, e)
		wantJoin(t, e, e, edit.Edit{})
		wantJoin(t, e, edit.Edit{}, e)
		wantJoin(t, e, edit.Edit{}, edit.Edit{}, e, edit.Edit{})
	}
	// Its own Drop goes ahead of its Add: nothing is taken out of it.
	one := edit.Edit{Add: tables(3, 4, 3), Drop: []uint64{4, 3, 3}}
	wantJoin(t, one, one)
}

func TestComingAndGoing(t *testing.T) {
	comes := func(ns ...uint64) edit.Edit { return edit.Edit{Add: tables(ns...)} }
	goes := func(ns ...uint64) edit.Edit { return edit.Edit{Drop: ns} }
	other := edit.Edit{Add: []api.Table{with(func(t *api.Table) { t.Level = 3 })}}
	for _, x := range []struct {
		what  string
		want  edit.Edit
		edits []edit.Edit
	}{
		{"comes and goes", edit.Edit{}, []edit.Edit{comes(3), goes(3)}},
		{"comes, goes, comes", other, []edit.Edit{comes(3), goes(3), other}},
		{"comes, goes, comes, goes", edit.Edit{}, []edit.Edit{comes(3), goes(3), comes(3), goes(3)}},
		{"goes and comes", edit.Edit{Add: tables(3), Drop: []uint64{3}}, []edit.Edit{goes(3), comes(3)}},
		{"goes, comes, goes", goes(3), []edit.Edit{goes(3), comes(3), goes(3)}},
		{"goes, comes, goes, comes", edit.Edit{Add: other.Add, Drop: []uint64{3}}, []edit.Edit{goes(3), comes(3), goes(3), other}},
		{"comes, goes, goes", goes(3), []edit.Edit{comes(3), goes(3), goes(3)}},
		{"comes twice and goes", edit.Edit{}, []edit.Edit{comes(3, 3), goes(3)}},
		{"comes by two and goes", edit.Edit{}, []edit.Edit{comes(3), other, goes(3)}},
		{"comes and goes twice", edit.Edit{}, []edit.Edit{comes(3), goes(3, 3)}},
		{"goes twice", goes(3, 3), []edit.Edit{goes(3), goes(3)}},
		{"goes twice at once", goes(4, 3, 3), []edit.Edit{goes(4), goes(3, 3)}},
		{"comes twice", edit.Edit{Add: append(tables(3), other.Add...)}, []edit.Edit{comes(3), other}},
		{"goes without having come", edit.Edit{Add: tables(3), Drop: []uint64{4}}, []edit.Edit{comes(3), goes(4)}},
		{"goes and comes at once, behind its coming", edit.Edit{Add: other.Add}, []edit.Edit{comes(3), {Add: other.Add, Drop: []uint64{3}}}},
		{"comes behind one that goes and comes at once", edit.Edit{Add: append(tables(3), other.Add...), Drop: []uint64{3}}, []edit.Edit{{Add: tables(3), Drop: []uint64{3}}, other}},
		{"the order", edit.Edit{Add: tables(9, 1, 8, 2), Drop: []uint64{30, 10, 20, 40}}, []edit.Edit{{Add: tables(9, 5, 1), Drop: []uint64{30, 10}}, {Add: tables(8, 2), Drop: []uint64{20, 5, 40}}}},
		{"what is left of many", edit.Edit{Add: tables(2, 6), Drop: []uint64{7}}, []edit.Edit{comes(1, 2, 3), goes(3, 7), comes(6, 4), goes(1, 4)}},
	} {
		t.Run(x.what, func(t *testing.T) { wantJoin(t, x.want, x.edits...) })
	}
}

func TestTheGreaterNumbers(t *testing.T) {
	ns := []uint64{0, 1, 2, 247, 248, 1<<63 - 1, 1 << 63, math.MaxUint64}
	for _, a := range ns {
		for _, b := range ns {
			wantJoin(t, edit.Edit{Log: max(a, b)}, edit.Edit{Log: a}, edit.Edit{Log: b})
			wantJoin(t, edit.Edit{Seq: max(a, b)}, edit.Edit{Seq: a}, edit.Edit{Seq: b})
			wantJoin(t, edit.Edit{Next: max(a, b)}, edit.Edit{Next: a}, edit.Edit{Next: b})
			// Each for itself: the greater ones may be of unlike edits.
			wantJoin(t, edit.Edit{Log: max(a, b), Seq: max(a, b), Next: max(3, a, b)}, edit.Edit{Log: a, Seq: b, Next: 3}, edit.Edit{Log: b, Seq: a, Next: a}, edit.Edit{Next: b})
		}
	}
}

// lists: all lists of at most two numbers from 1 to 2.
func lists() [][]uint64 {
	return [][]uint64{{}, {1}, {2}, {1, 1}, {1, 2}, {2, 1}, {2, 2}}
}

// smallEdits: an Add and a Drop of each of these; tables tell by their Count whose they are.
func smallEdits(mark int) []edit.Edit {
	var out []edit.Edit
	for _, add := range lists() {
		for _, drop := range lists() {
			e := edit.Edit{Drop: drop}
			for i, n := range add {
				e.Add = append(e.Add, api.Table{N: n, Count: 10*mark + i, Size: 1, First: "k", Last: "k", Least: 1, Most: 1})
			}
			out = append(out, e)
		}
	}
	return out
}

// All twos and threes of small edits, by the words.
func TestAllSmallJoins(t *testing.T) {
	for _, a := range smallEdits(1) {
		for _, b := range smallEdits(2) {
			two := joinByWords(a, b)
			wantJoin(t, two, a, b)
			joined := edit.Join(a, b)
			for _, c := range smallEdits(3) {
				want := joinByWords(two, c)
				if got := edit.Join(a, b, c); !same(got, want) {
					t.Fatalf("Join of %v, %v, %v: %v; want %v", a, b, c, got, want)
				}
				if got := edit.Join(joined, c); !same(got, want) {
					t.Fatalf("Join of %v, joined, and %v: %v; want %v", joined, c, got, want)
				}
			}
		}
	}
}

// chanceEdit: lists of numbers from 1 to most.
func chanceEdit(m *numberMaker, mark, most int) edit.Edit {
	e := edit.Edit{Log: uint64(m.below(300)), Seq: uint64(m.below(300)), Next: uint64(m.below(300))}
	for range m.below(5) {
		x := table(uint64(1 + m.below(most)))
		x.Count = 1 + mark
		e.Add = append(e.Add, x)
	}
	for range m.below(5) {
		e.Drop = append(e.Drop, uint64(1+m.below(most)))
	}
	return e
}

// Many edits that look like chance, joined at once, one by one, and a beginning ahead of the rest.
func TestManyJoins(t *testing.T) {
	maker := numberMaker(3)
	for round := range 3000 {
		var edits []edit.Edit
		for i := range maker.below(12) {
			edits = append(edits, chanceEdit(&maker, i, 3+round%7))
		}
		want := joinAllByWords(edits)
		wantJoin(t, want, edits...)
		for i := 1; i < len(edits); i++ {
			wantJoin(t, want, append([]edit.Edit{edit.Join(edits[:i]...)}, edits[i:]...)...)
		}
	}
}

// What may not be is joined by the same words.
func TestJoinOfWhatMayNotBe(t *testing.T) {
	zero, great := table(0), table(math.MaxUint64)
	wantJoin(t, edit.Edit{}, edit.Edit{Add: []api.Table{zero, great}}, edit.Edit{Drop: []uint64{math.MaxUint64, 0}})
	wantJoin(t, edit.Edit{Add: []api.Table{great}, Drop: []uint64{1}}, edit.Edit{Add: []api.Table{zero, great}}, edit.Edit{Drop: []uint64{0, 1}})
	wantJoin(t, edit.Edit{Add: []api.Table{{}, zero}, Drop: []uint64{0}}, edit.Edit{Drop: []uint64{0}}, edit.Edit{Add: []api.Table{{}, zero}})
	for what, x := range wrongTables() {
		one := edit.Edit{Add: []api.Table{x, table(77)}, Drop: []uint64{0, x.N}}
		two := edit.Edit{Add: []api.Table{table(78), x}, Drop: []uint64{77, math.MaxUint64}}
		three := edit.Edit{Add: []api.Table{x}, Drop: []uint64{x.N}}
		t.Run(what, func(t *testing.T) {
			wantJoin(t, one, one)
			wantJoin(t, joinAllByWords([]edit.Edit{one, two}), one, two)
			wantJoin(t, joinAllByWords([]edit.Edit{one, two, three}), one, two, three)
		})
	}
}

// So many edits that lists made anew for each would take too long.
func TestJoinOfVeryMany(t *testing.T) {
	const count = 100000
	var edits []edit.Edit
	var want edit.Edit
	for i := range uint64(count) {
		e := edit.Edit{Add: tables(i + 1), Log: i, Next: i + 2}
		// Each third table goes again by the next edit, and each other edit drops what never came.
		if i%3 == 1 {
			e.Drop = append(e.Drop, i)
		}
		if i%2 == 1 {
			e.Drop = append(e.Drop, 2*count+i)
			want.Drop = append(want.Drop, 2*count+i)
		}
		edits = append(edits, e)
		if i%3 != 0 || i == count-1 {
			want.Add = append(want.Add, e.Add...)
		}
		want.Log, want.Next = i, i+2
	}
	if got := edit.Join(edits...); !same(got, want) {
		t.Errorf("%d tables, %d numbers, %d, %d, %d; want %d, %d, %d, 0, %d", len(got.Add), len(got.Drop), got.Log, got.Seq, got.Next, len(want.Add), len(want.Drop), want.Log, want.Next)
	}
}

// lies: does the memory of a text lie in that of another one?
func lies(text, in string) bool {
	if text == "" || in == "" {
		return false
	}
	begin, at := uintptr(unsafe.Pointer(unsafe.StringData(in))), uintptr(unsafe.Pointer(unsafe.StringData(text)))
	return begin <= at && at < begin+uintptr(len(in))
}

// textsOf: the keys of an edit's tables.
func textsOf(e edit.Edit) []string {
	var out []string
	for _, t := range e.Add {
		out = append(out, t.First, t.Last)
	}
	return out
}

// spoil: all that an edit's lists have is changed, and what lies in their spare room.
func spoil(e edit.Edit) {
	add, drop := e.Add[:cap(e.Add)], e.Drop[:cap(e.Drop)]
	for i := range add {
		add[i] = api.Table{N: 999, First: "spoiled"}
	}
	for i := range drop {
		drop[i] = 999
	}
}

func TestJoinedIsMemoryOfItsOwn(t *testing.T) {
	keys := func() edit.Edit {
		return copyOf(edit.Edit{Add: []api.Table{with(func(t *api.Table) { t.First, t.Last = letters(9), letters(10) }), table(4)}, Drop: []uint64{4, 8}, Log: 5})
	}
	for count := 1; count <= 4; count++ {
		var edits []edit.Edit
		for range count {
			edits = append(edits, keys())
		}
		want := copyOf(joinAllByWords(edits))
		one, two := edit.Join(edits...), edit.Join(edits...)
		for _, text := range textsOf(one) {
			for _, e := range append(edits, two) {
				for _, other := range textsOf(e) {
					if lies(text, other) {
						t.Errorf("%q lies in what was handed in, or told before", text)
					}
				}
			}
		}
		spoil(one)
		if !slices.EqualFunc(edits, slices.Repeat([]edit.Edit{keys()}, count), same) {
			t.Errorf("what was told was changed, and with it what was handed in: %v", edits)
		}
		for _, e := range edits {
			spoil(e)
		}
		if !same(two, want) {
			t.Errorf("what was handed in was changed, and with it what was told: %v; want %v", two, want)
		}
	}
}

func TestDecodedIsMemoryOfItsOwn(t *testing.T) {
	e := edit.Edit{Add: []api.Table{with(func(t *api.Table) { t.First, t.Last = letters(20), letters(30) }), table(4)}, Drop: []uint64{4, 8}, Log: 5}
	row := rowByWords(e)
	one, _ := edit.Decode(row)
	two, _ := edit.Decode(row)
	for i, text := range textsOf(one) {
		if lies(text, row) || lies(text, textsOf(two)[i]) {
			t.Errorf("%q lies in the bytes that were read, or in what was told before", text)
		}
	}
	spoil(one)
	if !same(two, e) {
		t.Errorf("what was told was changed, and with it what was told before: %v", two)
	}
	wantDecode(t, row, e)
}

// What lies behind the ends of lists that are handed in stays, too.
func TestWhatIsHandedInStays(t *testing.T) {
	whole := edit.Edit{Add: tables(1, 2, 3, 4, 5, 6), Drop: []uint64{11, 2, 13, 14, 15, 16}}
	was := copyOf(whole)
	for count := range 7 {
		part := edit.Edit{Add: whole.Add[:count], Drop: whole.Drop[:count], Log: 1, Seq: 2, Next: 3}
		edit.Check(part)
		edit.Encode(part)
		edits := []edit.Edit{part, part, {Log: 7}}
		edit.Join(edits[:1]...)
		edit.Join(edits[:2]...)
		if !same(whole, was) || !same(edits[0], part) || !same(edits[1], part) || !same(edits[2], edit.Edit{Log: 7}) {
			t.Fatalf("what was handed in: %v, %v; it was %v", whole, edits, was)
		}
	}
}

// P13.4

// do: tables to which an edit is done; false, if it can't be.
func do(there []api.Table, e edit.Edit) ([]api.Table, bool) {
	at := func(n uint64) int {
		return slices.IndexFunc(there, func(t api.Table) bool { return t.N == n })
	}
	there = slices.Clone(there)
	for _, n := range e.Drop {
		i := at(n)
		if i < 0 {
			return nil, false
		}
		there = slices.Delete(there, i, i+1)
	}
	for _, t := range e.Add {
		if at(t.N) >= 0 {
			return nil, false
		}
		there = append(there, t)
	}
	return there, true
}

// sorted: tables by their numbers.
func sorted(there []api.Table) []api.Table {
	return slices.SortedFunc(slices.Values(there), func(a, b api.Table) int { return int(a.N) - int(b.N) })
}

// chanceStep: an edit that can be done to some tables. Numbers are few, so that they come and go again.
func chanceStep(m *numberMaker, there []api.Table, mark int) edit.Edit {
	var e edit.Edit
	for _, t := range there {
		if m.below(3) == 0 {
			e.Drop = append(e.Drop, t.N)
		}
	}
	left, _ := do(there, e)
	for n := uint64(1); n <= 8; n++ {
		x := table(n)
		x.Count = 1 + mark
		if _, ok := do(left, edit.Edit{Add: []api.Table{x}}); ok && m.below(3) == 0 {
			e.Add = append(e.Add, x)
		}
	}
	return e
}

func TestOneForMany(t *testing.T) {
	maker := numberMaker(7)
	comings := 0
	for round := range 4000 {
		var first []api.Table
		for n := uint64(1); n <= 8; n++ {
			if maker.below(2) == 0 {
				first = append(first, table(n))
			}
		}
		there := first
		var edits []edit.Edit
		for i := range 1 + maker.below(8) {
			e := chanceStep(&maker, there, 10+i)
			next, ok := do(there, e)
			if !ok {
				t.Fatalf("round %d: %v can't be done", round, e)
			}
			edits, there = append(edits, e), next
		}
		joined := edit.Join(edits...)
		got, ok := do(first, joined)
		if !ok || !slices.Equal(sorted(got), sorted(there)) {
			t.Fatalf("round %d: %v, joined of %v: %v, %v; want %v", round, joined, edits, got, ok, there)
		}
		// Any of them put together ahead of the others.
		from := maker.below(len(edits))
		to := from + 1 + maker.below(len(edits)-from)
		some := slices.Concat(edits[:from], []edit.Edit{edit.Join(edits[from:to]...)}, edits[to:])
		got, ok = do(first, edit.Join(some...))
		if !ok || !slices.Equal(sorted(got), sorted(there)) {
			t.Fatalf("round %d: %v with some joined ahead: %v, %v; want %v", round, edits, got, ok, there)
		}
		comings += len(joined.Add)
	}
	if comings < 1000 {
		t.Errorf("%d tables came", comings)
	}
}

// All threes of small edits that can be done to some tables.
func TestOneForThree(t *testing.T) {
	done := 0
	for _, first := range [][]api.Table{nil, tables(1), tables(2), tables(1, 2)} {
		for _, a := range smallEdits(1) {
			one, ok := do(first, a)
			if !ok {
				continue
			}
			for _, b := range smallEdits(2) {
				two, ok := do(one, b)
				if !ok {
					continue
				}
				for _, c := range smallEdits(3) {
					want, ok := do(two, c)
					if !ok {
						continue
					}
					done++
					got, ok := do(first, edit.Join(a, b, c))
					if !ok || !slices.Equal(sorted(got), sorted(want)) {
						t.Fatalf("%v, %v, %v done to %v: %v, %v; want %v", a, b, c, first, got, ok, want)
					}
				}
			}
		}
	}
	if done < 200 {
		t.Errorf("%d threes were done", done)
	}
}

// P13.5

// wantJustItsBytes: what is read of a text has that text as its bytes, and may be.
func wantJustItsBytes(t *testing.T, s string) (ok bool) {
	t.Helper()
	e, ok := edit.Decode(s)
	if !ok {
		wantNoDecode(t, "none's bytes", s)
		return false
	}
	if row, errno := edit.Encode(e); row != s || errno != api.OK || checkByWords(e) != api.OK {
		t.Errorf("Decode of %x: an edit with the bytes %x, %d", head(s), head(row), errno)
	}
	return true
}

// All texts of few bytes out of a small alphabet: each that is read is the row of what is read.
func TestSmallTexts(t *testing.T) {
	const alphabet = "\x00\x01\x02\xf8\xff"
	read := 0
	texts := []string{""}
	for range 8 {
		var longer []string
		for _, s := range texts {
			for i := range len(alphabet) {
				longer = append(longer, s+alphabet[i:i+1])
			}
		}
		for _, s := range longer {
			_, want := readByWords(s)
			if got := wantJustItsBytes(t, s); got != want {
				t.Errorf("%x is read: %v; want %v", s, got, want)
			} else if got {
				read++
			}
		}
		texts = longer
	}
	if read < 100 {
		t.Errorf("%d texts are read", read)
	}
}

// A table's bytes with any three of them others.
func TestSmallTables(t *testing.T) {
	const alphabet = "\x00\x01\x02\x03\x04\x40\x41a\xf7\xf8\xff"
	row := rowByWords(edit.Edit{Add: tables(3), Drop: []uint64{1}})
	read := 0
	s := []byte(row)
	var change func(from, more int)
	change = func(from, more int) {
		if _, want := readByWords(string(s)); wantJustItsBytes(t, string(s)) != want {
			t.Errorf("%x is read: %v; want %v", s, !want, want)
		} else if want {
			read++
		}
		for at := from; more > 0 && at < len(row); at++ {
			for i := range len(alphabet) {
				s[at] = alphabet[i]
				change(at+1, more-1)
			}
			s[at] = row[at]
		}
	}
	change(0, 3)
	if read < 1000 {
		t.Errorf("%d texts are read", read)
	}
}

// chanceSound: an edit that may be, with numbers and keys on edges.
func chanceSound(m *numberMaker) edit.Edit {
	ns := edges()
	e := edit.Edit{Log: m.of(ns), Seq: m.of(ns), Next: m.of(ns)}
	numbers, ints, seqs := upTo(edges(), 1, 1<<40), upTo(edges(), 1, math.MaxInt), upTo(edges(), 1, math.MaxUint64)
	for range m.below(4) {
		x := api.Table{N: m.of(numbers), Level: m.below(4), Count: int(m.of(ints)), Size: int(m.of(ints)), Least: m.of(seqs), Most: m.of(seqs)}
		x.Least, x.Most = min(x.Least, x.Most), max(x.Least, x.Most)
		a, b := letters(1+m.below(64)), string([]byte{byte(m.below(256))})+letters(m.below(64))
		x.First, x.Last = min(a, b), max(a, b)
		e.Add = append(e.Add, x)
	}
	for range m.below(4) {
		e.Drop = append(e.Drop, m.of(numbers))
	}
	return e
}

// Edits that look like chance: their rows are read again, and unlike edits have unlike rows.
func TestManyEdits(t *testing.T) {
	maker := numberMaker(5)
	rows := map[string]edit.Edit{}
	for range 20000 {
		e := chanceSound(&maker)
		row, errno := edit.Encode(e)
		if errno != api.OK || row != rowByWords(e) {
			t.Fatalf("Encode of %v: %x, %d; want %x", e, head(row), errno, head(rowByWords(e)))
		}
		wantDecode(t, row, e)
		if other, ok := rows[row]; ok && !same(other, e) {
			t.Fatalf("%v and %v have the same bytes", other, e)
		}
		rows[row] = e
	}
}
