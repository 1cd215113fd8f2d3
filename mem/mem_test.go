package mem

import (
	"cmp"
	"fmt"
	"math"
	"slices"
	"strconv"
	"strings"
	"testing"
	"unsafe"

	"copyhold/api"
	"copyhold/okey"
	"copyhold/skip"
)

// numberMaker: numbers that look like chance, the same ones in each run.
type numberMaker uint64

func (m *numberMaker) next() uint32 {
	*m = *m*6364136223846793005 + 1442695040888963407
	return uint32(*m >> 32)
}

// below: a number from 0 on, below n.
func (m *numberMaker) below(n int) int { return int(m.next()) % n }

// height: half of the towers are 1 high, half of the others 2, and so on.
func (m *numberMaker) height() int {
	height := 1
	for height < api.MaxHeight && m.below(2) == 0 {
		height++
	}
	return height
}

// anyHeight: at times one that is no tower's.
func (m *numberMaker) anyHeight() int {
	if m.below(8) == 0 {
		return m.below(24) - 6
	}
	return m.height()
}

// heights: on both sides of each edge, and far off.
func heights() []int {
	ns := []int{math.MinInt, math.MinInt + 1, -1 << 40, -12}
	for height := -1; height <= 14; height++ {
		ns = append(ns, height)
	}
	return append(ns, 24, 1<<40, math.MaxInt-1, math.MaxInt)
}

// manySeqs: the least ones, both sides of each power of 256, such with bytes 0 and 255 in them, the greatest ones; rising.
func manySeqs() []uint64 {
	seqs := []uint64{0, 1, 2, 3, 127, 128, 246, 247, 248, 249, 0x00ff00ff00ff00ff, 0xff00ff00ff00ff00, 0x0123456789abcdef, 1<<40 - 1, 1 << 40, 1<<63 - 1, 1 << 63, 1<<63 + 1, math.MaxUint64 - 2, math.MaxUint64 - 1, math.MaxUint64}
	for shift := 8; shift < 64; shift += 8 {
		edge := uint64(1) << shift
		seqs = append(seqs, edge-2, edge-1, edge, edge+1)
	}
	slices.Sort(seqs)
	return slices.Compact(seqs)
}

// manyKeys: the empty one, beginnings of one another, bytes 0, 1, 2, 3, 255 and above 127, such that look like what stands in places, and long ones; rising.
func manyKeys() []string {
	keys := []string{"", "\x00", "\x00\x00", "\x00\x01", "\x00\x02", "\x00\xff", "\x00\xff\x00", "\x01", "\x01\x00", "\x02", "\x02a\x00\x01", "\x03",
		"a", "a\x00", "a\x00\x00", "a\x00\x01", "a\x00\x01\xff\xff\xff\xff\xff\xff\xff\xff", "a\x00\x01\x00\x00\x00\x00\x00\x00\x00\x00", "a\x00\xff", "a\x00b", "a\x01", "a\x7f", "a\x80", "a\xff", "a\xff\x00", "aa", "aaa", "aab", "ab", "abc", "b", "z",
		"\x7f", "\x80", "\x80\x00", "\x81", "é", "\xc3", "\xfe", "\xff", "\xff\x00", "\xff\x01", "\xff\xff", strings.Repeat("\xff", 9),
		strings.Repeat("a", 64), strings.Repeat("a", 65), strings.Repeat("\x00", 64), strings.Repeat("\xff", 300)}
	slices.Sort(keys)
	return slices.Compact(keys)
}

// around: each of the keys, the texts just below and just above it, and such as are below and above all; rising.
func around(keys []string) []string {
	out := []string{"", "\x00", "m", strings.Repeat("\xff", 400)}
	for _, key := range keys {
		out = append(out, key, key+"\x00", key+"\x01", key+"\xff")
		if last := len(key) - 1; last >= 0 {
			out = append(out, key[:last])
			if key[last] > 0 {
				out = append(out, key[:last]+string([]byte{key[last] - 1})+"\xff")
			}
		}
	}
	slices.Sort(out)
	return slices.Compact(out)
}

// aroundSeqs: each of the numbers, the ones just below and just above it, 0 and the greatest; rising.
func aroundSeqs(seqs ...uint64) []uint64 {
	out := []uint64{0, math.MaxUint64}
	for _, seq := range seqs {
		out = append(out, seq)
		if seq > 0 {
			out = append(out, seq-1)
		}
		if seq < math.MaxUint64 {
			out = append(out, seq+1)
		}
	}
	slices.Sort(out)
	return slices.Compact(out)
}

// placeByWords: a text alone as a key of layer 2, and eight bytes.
func placeByWords(key string, seq uint64) string {
	var out strings.Builder
	out.WriteByte(2)
	for i := range len(key) {
		out.WriteByte(key[i])
		if key[i] == 0 {
			out.WriteByte(255)
		}
	}
	out.WriteByte(0)
	out.WriteByte(1)
	left := uint64(1<<64-1) - seq
	for _, worth := range []uint64{1 << 56, 1 << 48, 1 << 40, 1 << 32, 1 << 24, 1 << 16, 1 << 8, 1} {
		out.WriteByte(byte(left / worth))
		left %= worth
	}
	return out.String()
}

// order: -1, if the one entry stands ahead of the other; 1, if behind it.
func order(a, b api.Entry) int {
	if a.Key != b.Key {
		return cmp.Compare(a.Key, b.Key)
	}
	return cmp.Compare(b.Seq, a.Seq)
}

// held: the height of a tower, by the words of chapter 8.
func held(height int) int { return max(1, min(height, 12)) }

// row: an entry, and how high its tower is.
type row struct {
	e      api.Entry
	height int
}

// plain: what a memory should have, in the order of entries; each question goes through all of it.
type plain struct{ rows []row }

// put: by the chapter's words.
func (p *plain) put(e api.Entry, height int) api.Errno {
	if e.Gone && e.Value != "" {
		return api.ErrArg
	}
	at := 0
	for _, r := range p.rows {
		if r.e.Key == e.Key && r.e.Seq == e.Seq {
			return api.ErrThere
		}
		if order(r.e, e) < 0 {
			at++
		}
	}
	p.rows = slices.Insert(p.rows, at, row{e, held(height)})
	return api.OK
}

func (p *plain) at(key string, at uint64) (best api.Entry, ok bool) {
	for _, r := range p.rows {
		if r.e.Key == key && r.e.Seq <= at && (!ok || r.e.Seq > best.Seq) {
			best, ok = r.e, true
		}
	}
	return best, ok
}

func (p *plain) between(from, to string) []api.Entry {
	var entries []api.Entry
	for _, r := range p.rows {
		if r.e.Key >= from && (to == "" || r.e.Key < to) {
			entries = append(entries, r.e)
		}
	}
	return entries
}

func (p *plain) newest() uint64 {
	newest := uint64(0)
	for _, r := range p.rows {
		newest = max(newest, r.e.Seq)
	}
	return newest
}

func (p *plain) bytes() int {
	bytes := 0
	for _, r := range p.rows {
		bytes += len(r.e.Key) + len(r.e.Value)
	}
	return bytes
}

func (p *plain) keys() []string {
	var keys []string
	for _, r := range p.rows {
		keys = append(keys, r.e.Key)
	}
	return slices.Compact(keys)
}

func (p *plain) seqs() []uint64 {
	var seqs []uint64
	for _, r := range p.rows {
		seqs = append(seqs, r.e.Seq)
	}
	slices.Sort(seqs)
	return slices.Compact(seqs)
}

// places: those of the entries whose towers are higher than the level.
func (p *plain) places(level int) []string {
	var places []string
	for _, r := range p.rows {
		if level >= 0 && r.height > level {
			places = append(places, placeByWords(r.e.Key, r.e.Seq))
		}
	}
	return places
}

func (p *plain) towers() []int {
	var towers []int
	for _, r := range p.rows {
		towers = append(towers, r.height)
	}
	return towers
}

// text: entries to be told.
func text(entries []api.Entry) string {
	var out strings.Builder
	for _, e := range entries[:min(len(entries), 12)] {
		fmt.Fprintf(&out, "%q %q %d %v; ", e.Key, e.Value, e.Seq, e.Gone)
	}
	return out.String()
}

// has, gone: entries.
func has(key, value string, seq uint64) api.Entry {
	return api.Entry{Key: key, Value: value, Seq: seq}
}
func gone(key string, seq uint64) api.Entry { return api.Entry{Key: key, Seq: seq, Gone: true} }

// put: both are handed the same, and the memory says what the plain one does.
func put(t *testing.T, m *Mem, p *plain, e api.Entry, height int) {
	t.Helper()
	if got, want := m.Put(e, height), p.put(e, height); got != want {
		t.Errorf("Put(%q %q %d %v, %d): %d; want %d", e.Key, e.Value, e.Seq, e.Gone, height, got, want)
	}
}

// memoryOf: one with these entries, and the plain one.
func memoryOf(t *testing.T, entries ...api.Entry) (*Mem, *plain) {
	t.Helper()
	m, p := New(), &plain{}
	for i, e := range entries {
		put(t, m, p, e, 1+i%4)
	}
	if len(p.rows) != len(entries) {
		t.Fatalf("put: %d of %d", len(p.rows), len(entries))
	}
	return m, p
}

func wantAt(t *testing.T, what string, m *Mem, p *plain, key string, at uint64) {
	t.Helper()
	got, ok := m.At(key, at)
	if want, is := p.at(key, at); got != want || ok != is {
		t.Errorf("%s: At(%q, %d): %v, %v; want %v, %v", what, key, at, got, ok, want, is)
	}
}

func wantRange(t *testing.T, what string, m *Mem, p *plain, from, to string) {
	t.Helper()
	got, want := m.Range(from, to), p.between(from, to)
	if !slices.Equal(got, want) {
		t.Errorf("%s: Range(%q, %q): %d (%s); want %d (%s)", what, from, to, len(got), text(got), len(want), text(want))
	}
}

// wantSums: what all entries come to.
func wantSums(t *testing.T, what string, m *Mem, p *plain) {
	t.Helper()
	if m.Newest() != p.newest() || m.Bytes() != p.bytes() || m.Len() != len(p.rows) {
		t.Errorf("%s: Newest %d, Bytes %d, Len %d; want %d, %d, %d", what, m.Newest(), m.Bytes(), m.Len(), p.newest(), p.bytes(), len(p.rows))
	}
}

// wantLists: what the embedded list tells of rows and towers.
func wantLists(t *testing.T, what string, m *Mem, p *plain) {
	t.Helper()
	if got := m.Towers(); !slices.Equal(got, p.towers()) {
		t.Errorf("%s: Towers: %v; want %v", what, got, p.towers())
	}
	for level := -1; level <= 12; level++ {
		if got := m.Row(level); !slices.Equal(got, p.places(level)) {
			t.Errorf("%s: Row(%d): %q; want %q", what, level, got, p.places(level))
		}
	}
	at := 0
	for place, e := range m.From("") {
		if at >= len(p.rows) || e != p.rows[at].e || place != placeByWords(e.Key, e.Seq) {
			t.Errorf("%s: From: %q, %v is told as the one of number %d of %d", what, place, e, at, len(p.rows))
			return
		}
		at++
	}
	if at != len(p.rows) {
		t.Errorf("%s: From: %d; want %d", what, at, len(p.rows))
	}
}

// wantMemory: all that is told is what the plain one has.
func wantMemory(t *testing.T, what string, m *Mem, p *plain) {
	t.Helper()
	wantSums(t, what, m, p)
	wantLists(t, what, m, p)
	keys := around(p.keys())
	for _, key := range keys {
		for _, at := range aroundSeqs(p.seqs()...) {
			wantAt(t, what, m, p, key, at)
		}
		wantRange(t, what, m, p, key, "")
		wantRange(t, what, m, p, "", key)
	}
}

// wantRanges: each range between texts around the keys.
func wantRanges(t *testing.T, what string, m *Mem, p *plain) {
	t.Helper()
	keys := around(p.keys())
	for _, from := range keys {
		for _, to := range keys {
			wantRange(t, what, m, p, from, to)
		}
	}
}

// few: entries of keys that are near one another, with several versions; each other one of a key is Gone.
func few() []api.Entry {
	return []api.Entry{has("b", "2", 4), has("a", "1", 3), gone("a", 5), has("", "empty", 7), has("a\x00", "n", 4), has("a", "later", 9), gone("", 2), has("\xff", "high", 1), gone("ab", 6), has("b", "", 8)}
}

// The chapter's examples

func TestExamples(t *testing.T) {
	m := New()
	a3, a5, b4 := has("a", "1", 3), gone("a", 5), has("b", "2", 4)
	for _, e := range []api.Entry{a3, a5, b4} {
		if got := m.Put(e, 1); got != api.OK {
			t.Errorf("Put(%v): %d; want OK", e, got)
		}
	}
	for _, c := range []struct {
		key  string
		at   uint64
		want api.Entry
		ok   bool
	}{{"a", 4, a3, true}, {"a", 5, a5, true}, {"a", 2, api.Entry{}, false}, {"b", 9, b4, true}} {
		if got, ok := m.At(c.key, c.at); got != c.want || ok != c.ok {
			t.Errorf("At(%q, %d): %v, %v; want %v, %v", c.key, c.at, got, ok, c.want, c.ok)
		}
	}
	if got := m.Range("", ""); !slices.Equal(got, []api.Entry{a5, a3, b4}) {
		t.Errorf("Range of all: %v", got)
	}
	if got := m.Range("a", "b"); !slices.Equal(got, []api.Entry{a5, a3}) {
		t.Errorf("Range(a, b): %v", got)
	}
	if m.Newest() != 5 || m.Bytes() != 5 || m.Len() != 3 {
		t.Errorf("Newest %d, Bytes %d, Len %d; want 5, 5, 3", m.Newest(), m.Bytes(), m.Len())
	}
	if got := m.Put(has("b", "7", 4), 1); got != api.ErrThere {
		t.Errorf("Put of b, 7, 4: %d; want ErrThere", got)
	}
	if got := m.Put(api.Entry{Key: "c", Value: "x", Seq: 9, Gone: true}, 1); got != api.ErrArg {
		t.Errorf("Put of c, x, 9, Gone: %d; want ErrArg", got)
	}
	if got := m.Range("", ""); !slices.Equal(got, []api.Entry{a5, a3, b4}) {
		t.Errorf("Range of all behind Puts that were refused: %v", got)
	}
}

// P9.1

func TestNewHasNoEntries(t *testing.T) {
	m := New()
	if m == nil || m.List == nil {
		t.Fatalf("New: %v; want a memory with a list", m)
	}
	wantMemory(t, "a new one", m, &plain{})
	wantRanges(t, "a new one", m, &plain{})
}

func TestNewOnesAreMemoriesOfTheirOwn(t *testing.T) {
	a, b := New(), New()
	p, q := &plain{}, &plain{}
	put(t, a, p, has("k", "one", 3), 2)
	wantMemory(t, "the one", a, p)
	wantMemory(t, "the other", b, q)
	put(t, b, q, gone("k", 3), 5)
	put(t, b, q, has("m", "other", 9), 1)
	wantMemory(t, "the one", a, p)
	wantMemory(t, "the other", b, q)
}

func TestPlaceOfEachKeyAndNumber(t *testing.T) {
	for _, key := range manyKeys() {
		for _, seq := range manySeqs() {
			if got, want := Place(key, seq), placeByWords(key, seq); got != want {
				t.Errorf("Place(%q, %d): %x; want %x", key, seq, got, want)
			}
		}
	}
}

func TestPlacesWrittenOut(t *testing.T) {
	for _, c := range []struct {
		key  string
		seq  uint64
		want string
	}{
		{"", 0, "\x02\x00\x01\xff\xff\xff\xff\xff\xff\xff\xff"},
		{"", math.MaxUint64, "\x02\x00\x01\x00\x00\x00\x00\x00\x00\x00\x00"},
		{"a", 5, "\x02a\x00\x01\xff\xff\xff\xff\xff\xff\xff\xfa"},
		{"a", 1, "\x02a\x00\x01\xff\xff\xff\xff\xff\xff\xff\xfe"},
		{"a", 256, "\x02a\x00\x01\xff\xff\xff\xff\xff\xff\xfe\xff"},
		{"a", 1 << 63, "\x02a\x00\x01\x7f\xff\xff\xff\xff\xff\xff\xff"},
		{"a\x00", 0x0102030405060708, "\x02a\x00\xff\x00\x01\xfe\xfd\xfc\xfb\xfa\xf9\xf8\xf7"},
		{"\xff\x01", math.MaxUint64 - 1, "\x02\xff\x01\x00\x01\x00\x00\x00\x00\x00\x00\x00\x01"},
	} {
		if got := Place(c.key, c.seq); got != c.want {
			t.Errorf("Place(%q, %d): %x; want %x", c.key, c.seq, got, c.want)
		}
	}
}

func TestAPlaceHasTheKeyOfLayerTwoAndEightBytes(t *testing.T) {
	for _, key := range manyKeys() {
		for _, seq := range manySeqs() {
			head, ok := strings.CutPrefix(Place(key, seq), okey.Key(okey.Str(key)))
			if !ok || len(head) != 8 {
				t.Errorf("Place(%q, %d): %x", key, seq, Place(key, seq))
			}
		}
	}
}

func TestPlacesRiseAsEntriesDo(t *testing.T) {
	var entries []api.Entry
	for _, key := range manyKeys() {
		for _, seq := range aroundSeqs(0, 1, 255, 256, 1<<32, 1<<56, 1<<63, math.MaxUint64) {
			entries = append(entries, has(key, "", seq))
		}
	}
	for _, a := range entries {
		for _, b := range entries {
			if got, want := strings.Compare(Place(a.Key, a.Seq), Place(b.Key, b.Seq)), order(a, b); got != want {
				t.Fatalf("places of %q %d and %q %d: %d; want %d", a.Key, a.Seq, b.Key, b.Seq, got, want)
			}
		}
	}
}

func TestUnlikeEntriesHaveUnlikePlaces(t *testing.T) {
	whose := map[string]api.Entry{}
	for _, key := range around(manyKeys()) {
		for _, seq := range manySeqs() {
			place := Place(key, seq)
			if e, ok := whose[place]; ok {
				t.Fatalf("%q %d has the place of %q %d", key, seq, e.Key, e.Seq)
			}
			whose[place] = has(key, "", seq)
		}
	}
}

// All texts of up to three bytes of a small alphabet, at few numbers.
func TestPlacesOfAllShortKeys(t *testing.T) {
	keys := []string{""}
	for at := 0; at < len(keys) && len(keys[at]) < 3; at++ {
		for _, letter := range []byte{0, 1, 2, 3, 'a', 128, 254, 255} {
			keys = append(keys, keys[at]+string([]byte{letter}))
		}
	}
	slices.Sort(keys)
	last := ""
	for _, key := range keys {
		for _, seq := range []uint64{math.MaxUint64, math.MaxUint64 - 1, 1 << 56, 256, 255, 1, 0} {
			place := Place(key, seq)
			if place != placeByWords(key, seq) || place <= last {
				t.Fatalf("Place(%q, %d): %x, behind %x", key, seq, place, last)
			}
			last = place
		}
	}
}

func TestPutOfOneEntry(t *testing.T) {
	for _, key := range manyKeys() {
		for _, seq := range []uint64{0, 1, 255, 256, 1 << 63, math.MaxUint64 - 1, math.MaxUint64} {
			for _, e := range []api.Entry{has(key, "v", seq), has(key, "", seq), gone(key, seq)} {
				m, p := memoryOf(t, e)
				if got, ok := m.At(key, seq); got != e || !ok {
					t.Errorf("At(%q, %d): %v, %v; want %v", key, seq, got, ok, e)
				}
				wantMemory(t, "one entry", m, p)
			}
		}
	}
}

func TestPutOfWhatIsGoneAndHasAValue(t *testing.T) {
	for _, value := range []string{"x", "\x00", "\xff", " ", strings.Repeat("v", 513)} {
		m, p := New(), &plain{}
		wrong := api.Entry{Key: "k", Value: value, Seq: 4, Gone: true}
		wantErrno(t, "of none there", m.Put(wrong, 3), api.ErrArg)
		wantMemory(t, "refused", m, p)
		put(t, m, p, has("k", value, 4), 2)
		// What is wrong is seen to ahead of what is there.
		wantErrno(t, "of its number there", m.Put(wrong, 3), api.ErrArg)
		wantMemory(t, "refused", m, p)
		put(t, m, p, gone("k", 5), 2)
		wrong.Seq = 5
		wantErrno(t, "of a Gone one there", m.Put(wrong, 3), api.ErrArg)
		wantMemory(t, "refused", m, p)
	}
}

func wantErrno(t *testing.T, what string, got, want api.Errno) {
	t.Helper()
	if got != want {
		t.Errorf("Put %s: %d; want %d", what, got, want)
	}
}

func TestPutOfTheSameKeyAndNumberAgain(t *testing.T) {
	for _, first := range []api.Entry{has("k", "v", 4), has("k", "", 4), gone("k", 4), has("", "v", 0), gone("", math.MaxUint64)} {
		m, p := New(), &plain{}
		put(t, m, p, has("j", "below", 4), 2)
		put(t, m, p, first, 3)
		put(t, m, p, has("l", "above", 4), 1)
		for _, height := range []int{math.MinInt, 0, 1, 3, 5, 12, math.MaxInt} {
			for _, again := range []api.Entry{first, has(first.Key, "v", first.Seq), has(first.Key, "other", first.Seq), has(first.Key, "", first.Seq), gone(first.Key, first.Seq)} {
				wantErrno(t, "again", m.Put(again, height), api.ErrThere)
				if got, ok := m.At(first.Key, first.Seq); got != first || !ok {
					t.Fatalf("put again as %v: %v; want %v", again, got, first)
				}
				wantSums(t, "put again", m, p)
				wantLists(t, "put again", m, p)
			}
		}
		wantMemory(t, "put again", m, p)
	}
}

func TestPutOfTheSameNumberWithOtherKeysAndTheSameKeyWithOtherNumbers(t *testing.T) {
	m, p := New(), &plain{}
	for _, key := range manyKeys() {
		for _, seq := range []uint64{0, 4, 5, math.MaxUint64} {
			put(t, m, p, has(key, "v"+strconv.FormatUint(seq, 10), seq), int(seq%14))
		}
	}
	if m.Len() != 4*len(manyKeys()) {
		t.Errorf("Len: %d; want %d", m.Len(), 4*len(manyKeys()))
	}
	wantMemory(t, "all keys with the same numbers", m, p)
}

func TestPutHoldsTheHeight(t *testing.T) {
	for _, height := range heights() {
		m, p := New(), &plain{}
		for _, e := range []api.Entry{has("b", "1", 3), gone("b", 5), has("a", "", 4), has("c", "x", 0)} {
			put(t, m, p, e, height)
		}
		want := slices.Repeat([]int{max(1, min(height, 12))}, 4)
		if got := m.Towers(); !slices.Equal(got, want) {
			t.Errorf("Towers of height %d: %v; want %v", height, got, want)
		}
		wantMemory(t, "height "+strconv.Itoa(height), m, p)
	}
}

// The limits of layer 6 are not those of a memory.
func TestPutOfLongKeysAndValues(t *testing.T) {
	m, p := New(), &plain{}
	for i, size := range []int{0, 1, 63, 64, 65, 511, 512, 513, 70000} {
		put(t, m, p, has(strings.Repeat("k", size), strings.Repeat("v", size), uint64(i)), i)
		put(t, m, p, has("short", strings.Repeat("\x00", size), uint64(i)), i)
	}
	wantMemory(t, "long ones", m, p)
}

// P9.2

func TestAtEachNumberAroundVersions(t *testing.T) {
	m, p := memoryOf(t, has("k", "two", 2), gone("k", 4), has("k", "", 5), has("k", "nine", 9), has("j", "below", 3), has("k\x00", "above", 7))
	for _, c := range []struct {
		at   uint64
		want api.Entry
		ok   bool
	}{{0, api.Entry{}, false}, {1, api.Entry{}, false}, {2, has("k", "two", 2), true}, {3, has("k", "two", 2), true}, {4, gone("k", 4), true}, {5, has("k", "", 5), true}, {6, has("k", "", 5), true},
		{7, has("k", "", 5), true}, {8, has("k", "", 5), true}, {9, has("k", "nine", 9), true}, {10, has("k", "nine", 9), true}, {1 << 63, has("k", "nine", 9), true}, {math.MaxUint64, has("k", "nine", 9), true}} {
		if got, ok := m.At("k", c.at); got != c.want || ok != c.ok {
			t.Errorf("At(k, %d): %v, %v; want %v, %v", c.at, got, ok, c.want, c.ok)
		}
	}
	wantMemory(t, "versions of k", m, p)
}

func TestAtOfTheLeastAndTheGreatestNumber(t *testing.T) {
	least, greatest := has("k", "least", 0), has("k", "greatest", math.MaxUint64)
	m, p := memoryOf(t, greatest)
	if got, ok := m.At("k", math.MaxUint64-1); ok || got != (api.Entry{}) {
		t.Errorf("below the greatest number: %v, %v; want none", got, ok)
	}
	if got, ok := m.At("k", math.MaxUint64); got != greatest || !ok {
		t.Errorf("at the greatest number: %v, %v", got, ok)
	}
	put(t, m, p, least, 4)
	if got, ok := m.At("k", 0); got != least || !ok {
		t.Errorf("at 0: %v, %v", got, ok)
	}
	if got, ok := m.At("k", math.MaxUint64-1); got != least || !ok {
		t.Errorf("below the greatest number: %v, %v", got, ok)
	}
	wantMemory(t, "the least and the greatest", m, p)
}

func TestAtOfAKeyThatIsGone(t *testing.T) {
	m, _ := memoryOf(t, gone("k", 3))
	if got, ok := m.At("k", 3); got != gone("k", 3) || !ok {
		t.Errorf("At: %v, %v; want the entry that is Gone, true", got, ok)
	}
	if got, ok := m.At("k", 2); got != (api.Entry{}) || ok {
		t.Errorf("At below it: %v, %v; want none", got, ok)
	}
}

// What is there of other keys is no version of one that is not there, though it stands next to its place.
func TestAtOfKeysThatAreNear(t *testing.T) {
	for _, key := range manyKeys() {
		m, p := memoryOf(t, has(key, "v", 4), gone(key, 0), has(key, "w", math.MaxUint64))
		for _, near := range around([]string{key}) {
			for _, at := range aroundSeqs(0, 4) {
				wantAt(t, "a key that is near", m, p, near, at)
			}
		}
	}
}

func TestRangesOfFewEntries(t *testing.T) {
	m, p := memoryOf(t, few()...)
	for _, c := range []struct{ from, to, want string }{
		{"", "", " 7, 2,a 9,a 5,a 3,a\x00 4,ab 6,b 8,b 4,\xff 1"},
		{"", "a", " 7, 2"},
		{"", "\x00", " 7, 2"},
		{"\x00", "", "a 9,a 5,a 3,a\x00 4,ab 6,b 8,b 4,\xff 1"},
		{"a", "b", "a 9,a 5,a 3,a\x00 4,ab 6"},
		{"a", "a\x00", "a 9,a 5,a 3"},
		{"a\x00", "ab", "a\x00 4"},
		{"a\x00\x00", "ab\x00", "ab 6"},
		{"aa", "c", "ab 6,b 8,b 4"},
		{"b", "", "b 8,b 4,\xff 1"},
		{"b\x00", "", "\xff 1"},
		{"\xff", "", "\xff 1"},
		{"\xff\x00", "", ""},
		{"\xff\xff", "", ""},
		{"c", "d", ""},
		{"a", "a", ""},
		{"\xff", "\xff", ""},
		{"b", "a", ""},
		{"\xff", "a", ""},
		{"a\x00", "a", ""},
		{"a", "\x00", ""},
	} {
		var got []string
		for _, e := range m.Range(c.from, c.to) {
			got = append(got, e.Key+" "+strconv.FormatUint(e.Seq, 10))
		}
		if strings.Join(got, ",") != c.want {
			t.Errorf("Range(%q, %q): %q; want %q", c.from, c.to, got, c.want)
		}
	}
	wantMemory(t, "few entries", m, p)
	wantRanges(t, "few entries", m, p)
}

// All versions of a key are told, those of the least and the greatest number, too.
func TestRangesOfKeysWithTheLeastAndTheGreatestNumber(t *testing.T) {
	for _, key := range manyKeys() {
		all := []api.Entry{has(key, "c", math.MaxUint64), gone(key, math.MaxUint64-1), has(key, "b", 1), has(key, "a", 0)}
		m, p := memoryOf(t, all...)
		put(t, m, p, has(key+"\x00", "above", 3), 1)
		put(t, m, p, has(key+"\x00\x00", "above", math.MaxUint64), 2)
		if got := m.Range(key, key+"\x00"); !slices.Equal(got, all) {
			t.Errorf("Range of %q alone: %s; want %s", key, text(got), text(all))
		}
		wantRanges(t, "the least and the greatest", m, p)
	}
}

func TestRangesOfManyKeys(t *testing.T) {
	m, p := New(), &plain{}
	for i, key := range manyKeys() {
		put(t, m, p, has(key, "v", uint64(i*7%5)), i%13)
		put(t, m, p, gone(key, uint64(9+i)), i%7)
	}
	wantRanges(t, "many keys", m, p)
	wantMemory(t, "many keys", m, p)
}

func TestNewestAndBytesBehindEachPut(t *testing.T) {
	m := New()
	for _, c := range []struct {
		e      api.Entry
		errno  api.Errno
		newest uint64
		bytes  int
	}{
		{has("", "", 0), api.OK, 0, 0},
		{has("ab", "cde", 0), api.OK, 0, 5},
		{has("ab", "f", 0), api.ErrThere, 0, 5},
		{has("", "xyz", 3), api.OK, 3, 8},
		{has("ab", "f", 2), api.OK, 3, 11},
		{api.Entry{Key: "ab", Value: "f", Seq: 9, Gone: true}, api.ErrArg, 3, 11},
		{api.Entry{Key: "ab", Value: "f", Seq: 2, Gone: true}, api.ErrArg, 3, 11},
		{gone("ab", 2), api.ErrThere, 3, 11},
		{gone("ab", 9), api.OK, 9, 13},
		{gone("ab", 9), api.ErrThere, 9, 13},
		{has("é", "\x00\x00", 8), api.OK, 9, 17},
		{has("\x00\x00", "", math.MaxUint64), api.OK, math.MaxUint64, 19},
		{has("k", "v", 1), api.OK, math.MaxUint64, 21},
		{has("k", strings.Repeat("v", 1000), math.MaxUint64), api.OK, math.MaxUint64, 1022},
	} {
		wantErrno(t, text([]api.Entry{c.e}), m.Put(c.e, 2), c.errno)
		if m.Newest() != c.newest || m.Bytes() != c.bytes {
			t.Errorf("behind %s: Newest %d, Bytes %d; want %d, %d", text([]api.Entry{c.e}), m.Newest(), m.Bytes(), c.newest, c.bytes)
		}
	}
}

func TestTheEmbeddedListTellsOfPlaces(t *testing.T) {
	m, p := New(), &plain{}
	all := few()
	for i, e := range all {
		put(t, m, p, e, i)
		wantLists(t, "so far", m, p)
	}
	slices.SortFunc(all, order)
	for i, e := range all {
		place := Place(e.Key, e.Seq)
		if got, ok := m.Get(place); got != e || !ok {
			t.Errorf("Get of %v's place: %v, %v", e, got, ok)
		}
		for _, none := range []string{place[:len(place)-1], place + "\x00", e.Key, okey.Key(okey.Str(e.Key)), Place(e.Key, e.Seq+1000), Place(e.Key+"q", e.Seq)} {
			if got, ok := m.Get(none); got != (api.Entry{}) || ok {
				t.Errorf("Get(%x): %v, %v; want none", none, got, ok)
			}
		}
		if at, got, ok := m.Seek(place); at != place || got != e || !ok {
			t.Errorf("Seek of %v's place: %x, %v, %v", e, at, got, ok)
		}
		wantNext(t, m, "Seek just above", place+"\x00", all[i+1:], m.Seek)
		wantNext(t, m, "After", place, all[i+1:], m.After)
		wantNext(t, m, "Seek of an older one", Place(e.Key, e.Seq-1), all[i+1:], m.Seek)
		wantFrom(t, m, place, all[i:])
		wantFrom(t, m, place+"\x00", all[i+1:])
	}
}

// wantNext: what is told of a place is the first of the entries, or nothing.
func wantNext(t *testing.T, m *Mem, what, place string, want []api.Entry, ask func(string) (string, api.Entry, bool)) {
	t.Helper()
	at, e, ok := ask(place)
	if len(want) == 0 {
		if at != "" || e != (api.Entry{}) || ok {
			t.Errorf("%s %x: %x, %v, %v; want nothing", what, place, at, e, ok)
		}
		return
	}
	if e != want[0] || !ok || at != placeByWords(e.Key, e.Seq) {
		t.Errorf("%s %x: %x, %v, %v; want %v", what, place, at, e, ok, want[0])
	}
}

// wantFrom: the entries whose places are not below this one.
func wantFrom(t *testing.T, m *Mem, place string, want []api.Entry) {
	t.Helper()
	var got []api.Entry
	for at, e := range m.From(place) {
		if at != placeByWords(e.Key, e.Seq) {
			t.Errorf("From: %v is told at %x", e, at)
		}
		got = append(got, e)
	}
	if !slices.Equal(got, want) {
		t.Errorf("From(%x): %s; want %s", place, text(got), text(want))
	}
}

// Entries that are put while one goes over the list are told when their turn comes.
func TestTheEmbeddedListIsGoneOverWhileEntriesArePut(t *testing.T) {
	m, p := memoryOf(t, has("b", "", 4), has("d", "", 4))
	var got []string
	for _, e := range m.From("") {
		got = append(got, e.Key+strconv.FormatUint(e.Seq, 10))
		if e == has("b", "", 4) {
			for _, e := range []api.Entry{gone("b", 5), has("b", "old", 3), has("a", "", 9), has("c", "", 1)} {
				put(t, m, p, e, 3)
			}
		}
	}
	if strings.Join(got, " ") != "b4 b3 c1 d4" {
		t.Errorf("told: %q", got)
	}
	wantMemory(t, "put meanwhile", m, p)
}

// wantNothing: a memory of which nothing is told, and into which nothing can be put.
func wantNothing(t *testing.T, what string, m *Mem) {
	t.Helper()
	for range 2 {
		for _, key := range []string{"", "a", "k", "\x00\xff", strings.Repeat("k", 99)} {
			for _, seq := range []uint64{0, 1, 4, 1 << 63, math.MaxUint64} {
				// That there is no memory is seen to ahead of all else.
				for _, e := range []api.Entry{has(key, "v", seq), has(key, "", seq), gone(key, seq), {Key: key, Value: "v", Seq: seq, Gone: true}} {
					for _, height := range []int{math.MinInt, 0, 1, 12, math.MaxInt} {
						if got := m.Put(e, height); got != api.ErrNil {
							t.Fatalf("%s: Put(%v, %d): %d; want ErrNil", what, e, height, got)
						}
					}
				}
				if got, ok := m.At(key, seq); got != (api.Entry{}) || ok {
					t.Fatalf("%s: At(%q, %d): %v, %v; want none", what, key, seq, got, ok)
				}
			}
			for _, to := range []string{"", "a", "k", "z"} {
				if got := m.Range(key, to); len(got) != 0 {
					t.Fatalf("%s: Range(%q, %q): %v; want none", what, key, to, got)
				}
			}
		}
		if m.Newest() != 0 || m.Bytes() != 0 {
			t.Fatalf("%s: Newest %d, Bytes %d; want 0, 0", what, m.Newest(), m.Bytes())
		}
	}
}

func TestANilMemoryHasNothing(t *testing.T) {
	wantNothing(t, "a nil memory", nil)
}

func TestMemoriesThatNewDidNotMakeHaveNothing(t *testing.T) {
	wantNothing(t, "the zero memory", &Mem{})
	wantNothing(t, "another zero memory", new(Mem))
	wantNothing(t, "one with a list", &Mem{List: skip.New[api.Entry]()})
	wantNothing(t, "one with the zero list", &Mem{List: &skip.List[api.Entry]{}})
	m, p := memoryOf(t, few()...)
	wantNothing(t, "one with another memory's list", &Mem{List: m.List})
	wantMemory(t, "the memory whose list that is", m, p)
	l := skip.New[api.Entry]()
	l.Set(Place("k", 4), has("k", "v", 4), 2)
	wantNothing(t, "one with a list that has an entry", &Mem{List: l})
	if l.Len() != 1 {
		t.Errorf("the list has %d; want 1", l.Len())
	}
	taken := New()
	taken.Put(has("k", "v", 4), 1)
	taken.List = nil
	wantNothing(t, "one whose list was taken away", taken)
}

// A copy of a memory has the same list: so both of them tell the same.
func TestACopyOfAMemoryTellsTheSame(t *testing.T) {
	m, p := memoryOf(t, few()...)
	twin := *m
	put(t, &twin, p, has("new", "by the copy", 77), 3)
	wantMemory(t, "the memory", m, p)
	wantMemory(t, "its copy", &twin, p)
	put(t, m, p, has("newer", "by the memory", 78), 2)
	wantMemory(t, "the memory", m, p)
	wantMemory(t, "its copy", &twin, p)
}

// P9.3

// eachOrder: tell is called with each order of the numbers below n.
func eachOrder(n int, tell func(order []int)) {
	order := make([]int, n)
	for i := range order {
		order[i] = i
	}
	var put func(at int)
	put = func(at int) {
		if at == n {
			tell(order)
			return
		}
		for i := at; i < n; i++ {
			order[at], order[i] = order[i], order[at]
			put(at + 1)
			order[at], order[i] = order[i], order[at]
		}
	}
	put(0)
}

// All orders of four entries, with all of few heights.
func TestAllOrdersOfFewEntriesWithFewHeights(t *testing.T) {
	entries := []api.Entry{has("a", "1", 3), gone("a", 5), has("a\x00", "2", 4), has("", "3", 0)}
	some := []int{0, 1, 2, 12}
	sorted := slices.SortedFunc(slices.Values(entries), order)
	runs := 0
	eachOrder(len(entries), func(order []int) {
		for code := range 4 * 4 * 4 * 4 {
			runs++
			m, p := New(), &plain{}
			for _, at := range order {
				put(t, m, p, entries[at], some[code%4])
				code /= 4
			}
			if got := m.Range("", ""); !slices.Equal(got, sorted) || m.Newest() != 5 || m.Bytes() != 7 {
				t.Fatalf("order %v: %s; Newest %d, Bytes %d", order, text(got), m.Newest(), m.Bytes())
			}
			wantLists(t, "few entries", m, p)
			for _, key := range []string{"", "\x00", "a", "a\x00", "b"} {
				for at := range uint64(7) {
					wantAt(t, "few entries", m, p, key, at)
				}
				wantRange(t, "few entries", m, p, key, "")
				wantRange(t, "few entries", m, p, "a", key)
			}
		}
	})
	if runs != 24*256 {
		t.Errorf("runs: %d; want %d", runs, 24*256)
	}
}

func TestAllOrdersOfVersionsOfOneKey(t *testing.T) {
	entries := []api.Entry{has("k", "a", 0), gone("k", 1), has("k", "", 255), has("k", "d", 256), has("k", "e", math.MaxUint64)}
	eachOrder(len(entries), func(order []int) {
		m, p := New(), &plain{}
		for i, at := range order {
			put(t, m, p, entries[at], 1+(i*5+at)%4)
			wantMemory(t, "so far", m, p)
		}
		if m.Newest() != math.MaxUint64 || m.Bytes() != 8 || m.Len() != 5 {
			t.Errorf("order %v: %d, %d, %d", order, m.Newest(), m.Bytes(), m.Len())
		}
	})
}

// told: all that is told of a memory but what hangs on heights.
func told(m *Mem, keys []string, seqs []uint64) string {
	var out strings.Builder
	for _, key := range keys {
		for _, at := range seqs {
			e, ok := m.At(key, at)
			fmt.Fprintln(&out, e, ok)
		}
		fmt.Fprintln(&out, m.Range(key, ""), m.Range("", key))
	}
	fmt.Fprintln(&out, m.Newest(), m.Bytes(), m.Len(), m.Row(0))
	return out.String()
}

func TestOtherOrdersAndHeightsTellTheSame(t *testing.T) {
	maker := numberMaker(93)
	keys := []string{"", "\x00", "a", "a\x00", "a\xff", "ab", "b", "\xff"}
	var entries []api.Entry
	for _, key := range keys {
		for _, seq := range []uint64{0, 3, 4, 9, math.MaxUint64} {
			entries = append(entries, has(key, strconv.Itoa(len(entries)), seq+uint64(len(key))))
		}
	}
	for i := 0; i < len(entries); i += 3 {
		entries[i].Value, entries[i].Gone = "", true
	}
	_, p := memoryOf(t, entries...)
	asked, seqs, want := around(keys), aroundSeqs(p.seqs()...), ""
	for _, height := range []func() int{func() int { return 1 }, func() int { return 12 }, func() int { return math.MinInt }, func() int { return math.MaxInt }, maker.height, maker.anyHeight, maker.anyHeight} {
		m := New()
		for _, e := range entries {
			wantErrno(t, "in another order", m.Put(e, height()), api.OK)
		}
		got := told(m, asked, seqs)
		if want == "" {
			want = got
			wantRanges(t, "the first order", m, p)
		}
		if got != want {
			t.Errorf("another order, other heights: another thing is told")
		}
		for i := range entries {
			j := i + maker.below(len(entries)-i)
			entries[i], entries[j] = entries[j], entries[i]
		}
	}
}

func TestWhatIsToldAtANumberDoesNotChangeByGreaterNumbers(t *testing.T) {
	const now = 50
	maker := numberMaker(50)
	keys := []string{"", "a", "a\x00", "ab", "b", "\xff"}
	m, p := New(), &plain{}
	for i := range 60 {
		put(t, m, p, has(keys[i%len(keys)], "old"+strconv.Itoa(i), uint64(maker.below(now+1))), maker.height())
	}
	put(t, m, p, gone("c", now), 2)
	asked := around(append(keys, "c"))
	look := func() (entries []string) {
		for _, key := range asked {
			for at := range uint64(now + 1) {
				e, ok := m.At(key, at)
				entries = append(entries, fmt.Sprint(e, ok))
			}
		}
		return entries
	}
	want := look()
	for i := range 200 {
		e := has(asked[i%len(asked)], "new", now+1+uint64(i/2))
		if i%3 == 0 {
			e = gone(e.Key, math.MaxUint64-uint64(i))
		}
		put(t, m, p, e, maker.height())
		if i%20 == 0 && !slices.Equal(look(), want) {
			t.Fatalf("behind %v: another thing is told", e)
		}
	}
	if !slices.Equal(look(), want) {
		t.Errorf("behind many entries of greater numbers: another thing is told")
	}
	wantMemory(t, "behind many entries", m, p)
}

// shares: does a text stand in the memory of another one?
func shares(text, in string) bool {
	if text == "" || in == "" {
		return false
	}
	begin, at := uintptr(unsafe.Pointer(unsafe.StringData(in))), uintptr(unsafe.Pointer(unsafe.StringData(text)))
	return at < begin+uintptr(len(in)) && begin < at+uintptr(len(text))
}

func TestWhatIsHandedInIsNotKept(t *testing.T) {
	bytes := []byte("keyvalue")
	all := unsafe.String(&bytes[0], len(bytes))
	m, p := New(), &plain{}
	wantErrno(t, "of it", m.Put(has(all[:3], all[3:], 4), 2), api.OK)
	p.put(has("key", "value", 4), 2)
	at := Place(all[:3], 4)
	copy(bytes, "xyzspoil")
	if at != placeByWords("key", 4) {
		t.Errorf("the place that was told ahead: %x", at)
	}
	wantMemory(t, "what was handed in is another text", m, p)
	copy(bytes, "keyother")
	wantErrno(t, "again", m.Put(has(all[:3], all[3:], 4), 9), api.ErrThere)
	got := m.Range(all[:3], "")
	copy(bytes, "qqqqqqqq")
	if !slices.Equal(got, []api.Entry{has("key", "value", 4)}) {
		t.Errorf("told ahead: %v", got)
	}
	wantMemory(t, "put again", m, p)
}

// toldTexts: all texts that At and Range tell of a memory.
func toldTexts(m *Mem) []string {
	var texts []string
	entries := append(m.Range("", ""), m.Range("k", "l")...)
	for _, key := range []string{"kkkk", "mmmm"} {
		for at := range uint64(9) {
			if e, ok := m.At(key, at); ok {
				entries = append(entries, e)
			}
		}
	}
	for _, e := range entries {
		texts = append(texts, e.Key, e.Value)
	}
	return append(texts, Place("kkkk", 4), Place("kkkk", 4), Place("", 4))
}

func TestWhatIsToldIsMemoryOfItsOwn(t *testing.T) {
	key, value := strings.Clone("kkkk"), strings.Clone("vvvv")
	m, _ := memoryOf(t, has(key, value, 4), gone(key, 5), has("mmmm", value, 4))
	texts := append(toldTexts(m), toldTexts(m)...)
	for i, a := range texts {
		if shares(a, key) || shares(a, value) {
			t.Fatalf("%q is told in the memory of what was handed in", a)
		}
		for _, b := range texts[:i] {
			if shares(a, b) {
				t.Fatalf("%q and %q are told in one memory", a, b)
			}
		}
	}
	for _, e := range m.From("") {
		for _, a := range texts {
			if shares(a, e.Key) || shares(a, e.Value) {
				t.Fatalf("%q is told in the memory that is kept", a)
			}
		}
	}
}

func TestWhatWasToldIsSpoiledAndTheMemoryStays(t *testing.T) {
	m, p := memoryOf(t, few()...)
	again := m.Range("", "")
	for round := range 3 {
		for _, from := range around(p.keys()) {
			got := m.Range(from, "")
			whole := got[:cap(got)]
			for i := range whole {
				whole[i] = has("spoiled", "spoiled", 1)
			}
		}
		got, _ := m.At("a", 9)
		got.Value = "spoiled"
		wantMemory(t, "what was told is spoiled", m, p)
		put(t, m, p, has("k"+strconv.Itoa(round), "new", 5), 5)
	}
	if !slices.Equal(again, slices.SortedFunc(slices.Values(few()), order)) {
		t.Errorf("told ahead: %s", text(again))
	}
}

func TestWhatWasToldStays(t *testing.T) {
	m, p := memoryOf(t, few()...)
	all, part := m.Range("", ""), m.Range("a", "b")
	whole, some := p.between("", ""), p.between("a", "b")
	e, _ := m.At("a", 5)
	for i := range 300 {
		put(t, m, p, has("a"+strconv.Itoa(i%40), "new", uint64(100+i)), 1+i%12)
		put(t, m, p, has("a", "new", uint64(100+i)), 1+i%12)
	}
	if !slices.Equal(all, whole) || !slices.Equal(part, some) || e != gone("a", 5) {
		t.Errorf("told ahead of the Puts: %s; %s; %v", text(all), text(part), e)
	}
	wantMemory(t, "behind the Puts", m, p)
}

func TestAskingChangesNothing(t *testing.T) {
	m, p := memoryOf(t, few()...)
	for range 3 {
		for _, key := range around(p.keys()) {
			for _, at := range aroundSeqs(p.seqs()...) {
				m.At(key, at)
				Place(key, at)
			}
			m.Range(key, "")
			m.Range("", key)
		}
		m.Newest()
		m.Bytes()
		wantSums(t, "behind many questions", m, p)
		wantLists(t, "behind many questions", m, p)
	}
	wantMemory(t, "behind many questions", m, p)
}

// run: what a long run is made of.
type run struct {
	seed             numberMaker
	puts             int
	letters, longest int
	seqs             int
}

// entry: one of a run; at times one that may not be.
func (r *run) entry(i int) api.Entry {
	key := make([]byte, r.seed.below(r.longest+1))
	for j := range key {
		key[j] = byte(r.seed.below(r.letters) * 255 / (r.letters - 1))
	}
	e := has(string(key), strings.Repeat("v", r.seed.below(5))+strconv.Itoa(i), uint64(r.seed.below(r.seqs)))
	switch r.seed.below(8) {
	case 0:
		e.Gone = true
	case 1, 2:
		e.Gone, e.Value = true, ""
	case 3:
		e.Seq = math.MaxUint64 - e.Seq
	}
	return e
}

func TestLongRunsAgainstAPlainSortedList(t *testing.T) {
	for _, r := range []run{{1, 2500, 2, 4, 40}, {2, 2500, 3, 3, 300}, {3, 1500, 256, 2, 4}, {4, 1500, 4, 6, 1 << 30}, {5, 400, 256, 70, 3}} {
		m, p := New(), &plain{}
		for i := range r.puts {
			e := r.entry(i)
			put(t, m, p, e, r.seed.anyHeight())
			wantSums(t, "a long run", m, p)
			for _, at := range aroundSeqs(e.Seq) {
				wantAt(t, "a long run", m, p, e.Key, at)
			}
			half := e.Key[:len(e.Key)/2]
			wantAt(t, "a long run", m, p, half, e.Seq)
			if i%50 == 0 {
				wantRange(t, "a long run", m, p, half, e.Key)
				wantRange(t, "a long run", m, p, e.Key, "")
			}
			if i%250 == 0 {
				wantLists(t, "a long run", m, p)
			}
		}
		if len(p.rows) == r.puts || len(p.rows) < r.puts/20 {
			t.Errorf("a long run: of %d there are %d: some should be refused, and some not", r.puts, len(p.rows))
		}
		wantLists(t, "behind a long run", m, p)
		wantRange(t, "behind a long run", m, p, "", "")
	}
}

func TestVeryManyEntries(t *testing.T) {
	const count, versions = 20000, 4
	m := New()
	maker := numberMaker(9)
	for i := range count * versions {
		at := i * 7919 % (count * versions)
		e := has(strconv.Itoa(count+at/versions), "v", uint64(at))
		if got := m.Put(e, maker.height()); got != api.OK {
			t.Fatalf("Put of %v: %d", e, got)
		}
		if i%1000 == 0 && m.Len() != i+1 {
			t.Fatalf("Len: %d; want %d", m.Len(), i+1)
		}
	}
	all := m.Range("", "")
	if len(all) != count*versions || !slices.IsSortedFunc(all, order) {
		t.Fatalf("Range of all: %d; want %d, in their order", len(all), count*versions)
	}
	if m.Newest() != count*versions-1 || m.Bytes() != 6*count*versions {
		t.Errorf("Newest %d, Bytes %d; want %d, %d", m.Newest(), m.Bytes(), count*versions-1, 6*count*versions)
	}
	for at := range count {
		key, last := strconv.Itoa(count+at), uint64(at*versions+versions-1)
		if e, ok := m.At(key, math.MaxUint64); e.Seq != last || !ok {
			t.Fatalf("At(%s): %v, %v; want number %d", key, e, ok, last)
		}
		if e, ok := m.At(key, last-1); e.Seq != last-1 || !ok {
			t.Fatalf("At(%s, %d): %v, %v", key, last-1, e, ok)
		}
	}
}
