package table_test

import (
	"encoding/hex"
	"hash/crc32"
	"hash/fnv"
	"math"
	"slices"
	"strconv"
	"strings"
	"testing"
	"unsafe"

	"copyhold/api"
	"copyhold/table"
)

// numberMaker: numbers that look like chance, the same ones in each run.
type numberMaker uint64

func (m *numberMaker) next() uint32 {
	*m = *m*6364136223846793005 + 1442695040888963407
	return uint32(*m >> 32)
}

// below: a number from 0 on, below n.
func (m *numberMaker) below(n int) int { return int(m.next()) % n }

// text: so many bytes out of some.
func (m *numberMaker) text(size int, alphabet string) string {
	b := make([]byte, size)
	for i := range b {
		b[i] = alphabet[m.below(len(alphabet))]
	}
	return string(b)
}

// letters: a text of so many bytes, no two of which side by side are alike.
func letters(size int) string {
	b := make([]byte, size)
	for i := range b {
		b[i] = byte('a' + i%26)
	}
	return string(b)
}

// noughts: so many bytes 0.
func noughts(size int) string { return strings.Repeat("\x00", size) }

// head: so much of a text as a failure needs to show.
func head(s string) string { return s[:min(len(s), 60)] }

// fromHex: the bytes that some digits tell, blanks left out.
func fromHex(t *testing.T, digits string) string {
	t.Helper()
	row, err := hex.DecodeString(strings.ReplaceAll(digits, " ", ""))
	if err != nil {
		t.Fatal(err)
	}
	return string(row)
}

const top = 1 << 63

// What a table's bytes are, by the words of chapters 1 to 3 and 10 to 12.

// numberRow: a number's bytes.
func numberRow(n uint64) string {
	if n < 248 {
		return string([]byte{byte(n)})
	}
	var low []byte
	for ; n > 0; n >>= 8 {
		low = append(low, byte(n))
	}
	slices.Reverse(low)
	return string([]byte{byte(247 + len(low))}) + string(low)
}

func textRow(s string) string { return numberRow(uint64(len(s))) + s }

// four: a number in four bytes.
func four(n int) string {
	return string([]byte{byte(n >> 24), byte(n >> 16), byte(n >> 8), byte(n)})
}

// pair: what stands in a block.
type pair struct{ key, value string }

// sharedByWords: with how many bytes both begin.
func sharedByWords(a, b string) int {
	n := 0
	for n < len(a) && strings.HasPrefix(b, a[:n+1]) {
		n++
	}
	return n
}

// blockByWords: a block's bytes, also if its keys do not rise.
func blockByWords(pairs []pair) string {
	var rows, foot strings.Builder
	for i, p := range pairs {
		shared := 0
		if i%4 == 0 {
			foot.WriteString(four(rows.Len()))
		} else {
			shared = sharedByWords(pairs[i-1].key, p.key)
		}
		rows.WriteString(numberRow(uint64(shared)) + textRow(p.key[shared:]) + textRow(p.value))
	}
	return rows.String() + foot.String() + four(len(pairs))
}

// okeyByWords: a text's key.
func okeyByWords(key string) string {
	return "\x02" + strings.ReplaceAll(key, "\x00", "\x00\xff") + "\x00\x01"
}

func internalByWords(key string, seq uint64) string {
	left := math.MaxUint64 - seq
	return okeyByWords(key) + four(int(left>>32)) + four(int(left&math.MaxUint32))
}

// pairByWords: what stands in a data block for an entry.
func pairByWords(e api.Entry) pair {
	if e.Gone {
		return pair{internalByWords(e.Key, e.Seq), "\x01" + e.Value}
	}
	return pair{internalByWords(e.Key, e.Seq), "\x00" + e.Value}
}

// filterByWords: a filter of some keys.
func filterByWords(keys []string) string {
	filter := make([]byte, (max(64, 10*len(keys))+7)/8)
	for _, key := range keys {
		for _, bit := range probesByWords(key, len(filter)) {
			filter[bit/8] |= 1 << (bit % 8)
		}
	}
	return string(filter)
}

func probesByWords(key string, size int) []uint64 {
	hasher := fnv.New64a()
	hasher.Write([]byte(key))
	hash := hasher.Sum64()
	var probes []uint64
	for i := range uint64(6) {
		probes = append(probes, (hash&math.MaxUint32+i*(hash>>32|1))%(1<<32)%uint64(8*size))
	}
	return probes
}

// mayByWords: are all the bits of a key 1?
func mayByWords(filter, key string) bool {
	for _, bit := range probesByWords(key, len(filter)) {
		if filter[bit/8]>>(bit%8)&1 == 0 {
			return false
		}
	}
	return true
}

// keysOf: each once.
func keysOf(entries []api.Entry) []string {
	var keys []string
	for _, e := range entries {
		if !slices.Contains(keys[max(0, len(keys)-1):], e.Key) {
			keys = append(keys, e.Key)
		}
	}
	return keys
}

// cutByWords: what stands in each data block, and whether the last one has as many bytes as end it.
func cutByWords(entries []api.Entry) (blocks [][]pair, ended bool) {
	ended = true
	for _, e := range entries {
		if ended {
			blocks = append(blocks, nil)
		}
		last := &blocks[len(blocks)-1]
		*last = append(*last, pairByWords(e))
		ended = len(blockByWords(*last)) >= 256
	}
	return blocks, ended
}

// rowsOf: each block's bytes.
func rowsOf(blocks [][]pair) []string {
	var rows []string
	for _, pairs := range blocks {
		rows = append(rows, blockByWords(pairs))
	}
	return rows
}

// indexOf: what stands in the index of some blocks.
func indexOf(blocks [][]pair) []pair {
	var index []pair
	at := 0
	for _, pairs := range blocks {
		size := len(blockByWords(pairs))
		last := ""
		if len(pairs) > 0 {
			last = pairs[len(pairs)-1].key
		}
		index = append(index, pair{last, numberRow(uint64(at)) + numberRow(uint64(size))})
		at += size
	}
	return index
}

// summed: bytes, and their sum behind them.
func summed(s string) string { return s + four(int(crc32.ChecksumIEEE([]byte(s)))) }

// resummed: bytes whose last four are made the sum of the others.
func resummed(s string) string { return summed(s[:max(0, len(s)-4)]) }

// assembled: what stands for a table, with the right places and a right sum, whatever its parts are.
func assembled(data, filter, index string, count int) string {
	return summed(data + filter + index + four(len(data)) + four(len(data)+len(filter)) + four(count))
}

// blocked: what stands for a table with these data blocks, and an index, a filter and a count that are theirs.
func blocked(blocks [][]pair, keys []string) string {
	count := 0
	for _, pairs := range blocks {
		count += len(pairs)
	}
	return assembled(strings.Join(rowsOf(blocks), ""), filterByWords(keys), blockByWords(indexOf(blocks)), count)
}

// tableByWords: a table's bytes.
func tableByWords(entries []api.Entry) string {
	blocks, _ := cutByWords(entries)
	return blocked(blocks, keysOf(entries))
}

// piecesByWords: what each Add tells, and what Finish does.
func piecesByWords(entries []api.Entry) (pieces []string, rest string) {
	blocks, ended := cutByWords(entries)
	size := 0
	for i, pairs := range blocks {
		pieces = append(pieces, make([]string, len(pairs))...)
		if i < len(blocks)-1 || ended {
			pieces[len(pieces)-1] = blockByWords(pairs)
			size += len(blockByWords(pairs))
		}
	}
	return pieces, tableByWords(entries)[size:]
}

// knownByWords: what is known of a table.
func knownByWords(n uint64, level int, entries []api.Entry) api.Table {
	known := api.Table{N: n, Level: level, Count: len(entries), Size: len(tableByWords(entries)), Least: math.MaxUint64}
	for _, e := range entries {
		known.Least, known.Most = min(known.Least, e.Seq), max(known.Most, e.Seq)
	}
	known.First, known.Last = entries[0].Key, entries[len(entries)-1].Key
	return known
}

// mayBe: is it an entry?
func mayBe(e api.Entry) bool {
	return len(e.Key) >= 1 && len(e.Key) <= 64 && len(e.Value) <= 512 && e.Seq >= 1 && e.Seq <= top && (!e.Gone || e.Value == "")
}

// isBehind: does an entry come behind another one?
func isBehind(e, other api.Entry) bool {
	return e.Key > other.Key || e.Key == other.Key && e.Seq < other.Seq
}

// areEntries: may a table have these?
func areEntries(entries []api.Entry) bool {
	for i, e := range entries {
		if !mayBe(e) || i > 0 && !isBehind(e, entries[i-1]) {
			return false
		}
	}
	return len(entries) > 0
}

// cutter: bytes that are read one behind the other; it is spoilt as soon as they are not what is asked for.
type cutter struct {
	rest   string
	spoilt bool
}

func (c *cutter) take(size uint64) string {
	if c.spoilt || size > uint64(len(c.rest)) {
		c.spoilt = true
		return ""
	}
	out := c.rest[:size]
	c.rest = c.rest[size:]
	return out
}

func (c *cutter) four() uint64 {
	var n uint64
	for _, b := range []byte(c.take(4)) {
		n = n*256 + uint64(b)
	}
	return n
}

func (c *cutter) number() uint64 {
	first := c.take(1)
	if c.spoilt || first[0] < 248 {
		return uint64((first + "\x00")[0])
	}
	var n uint64
	for _, b := range []byte(c.take(uint64(first[0]) - 247)) {
		n = n*256 + uint64(b)
	}
	return n
}

// pairsByWords: what stands in bytes that begin as a block's do; whether they are one's is not seen to.
func pairsByWords(s string) ([]pair, bool) {
	if len(s) < 4 {
		return nil, false
	}
	end := cutter{rest: s[len(s)-4:]}
	c := cutter{rest: s}
	var pairs []pair
	for i := range end.four() {
		ahead := ""
		if i > 0 {
			ahead = pairs[i-1].key
		}
		shared := min(c.number(), uint64(len(ahead)))
		key := ahead[:shared] + c.take(c.number())
		value := c.take(c.number())
		if c.spoilt {
			return nil, false
		}
		pairs = append(pairs, pair{key, value})
	}
	return pairs, true
}

// entryByWords: the entry that stands in a data block, if it may be one; whether it stands there as it should is not seen to.
func entryByWords(p pair) api.Entry {
	cut := len(p.key) - 8
	if cut < 3 || p.value == "" {
		return api.Entry{}
	}
	c := cutter{rest: p.key[cut:]}
	left := c.four() << 32
	left += c.four()
	key := strings.ReplaceAll(p.key[1:cut-2], "\x00\xff", "\x00")
	return api.Entry{Key: key, Value: p.value[1:], Seq: math.MaxUint64 - left, Gone: p.value[0] == 1}
}

// entriesByWords: the entries of a table's bytes, and whether they are some's.
func entriesByWords(s string) ([]api.Entry, bool) {
	if len(s) < 16 {
		return nil, false
	}
	foot := cutter{rest: s[len(s)-16:]}
	at, to := foot.four(), foot.four()
	if at > to || to > uint64(len(s)-16) {
		return nil, false
	}
	index, ok := pairsByWords(s[to : len(s)-16])
	if !ok {
		return nil, false
	}
	var entries []api.Entry
	data := cutter{rest: s[:at]}
	for _, p := range index {
		c := cutter{rest: p.value}
		c.number()
		pairs, ok := pairsByWords(data.take(c.number()))
		if !ok || data.spoilt || c.spoilt {
			return nil, false
		}
		for _, p := range pairs {
			entries = append(entries, entryByWords(p))
		}
	}
	if !areEntries(entries) || tableByWords(entries) != s {
		return nil, false
	}
	return entries, true
}

// getByWords: of a key the entry with the greatest number that is not above one.
func getByWords(entries []api.Entry, key string, at uint64) (api.Entry, bool) {
	var best api.Entry
	found := false
	for _, e := range entries {
		if e.Key == key && e.Seq <= at && (!found || e.Seq > best.Seq) {
			best, found = e, true
		}
	}
	return best, found
}

// rangeByWords: those whose keys are not below one, and below another one.
func rangeByWords(entries []api.Entry, from, to string) []api.Entry {
	var out []api.Entry
	for _, e := range entries {
		if e.Key >= from && (to == "" || e.Key < to) {
			out = append(out, e)
		}
	}
	return out
}

// What is handed in.

func put(key string, seq uint64, value string) api.Entry {
	return api.Entry{Key: key, Seq: seq, Value: value}
}

func gone(key string, seq uint64) api.Entry { return api.Entry{Key: key, Seq: seq, Gone: true} }

// chapters: the entries of the chapter's example.
func chapters() []api.Entry {
	return []api.Entry{put("a", 5, "x"), gone("a", 3), put("b", 9, "y")}
}

// numbered: so many entries, with keys of their own.
func numbered(begin string, count int) []api.Entry {
	var entries []api.Entry
	for i := range count {
		e := put(begin+strconv.Itoa(1000000 + 2*i)[1:], uint64(1+i*7%count), letters(i%37))
		if i%5 == 3 {
			e = gone(e.Key, e.Seq)
		}
		entries = append(entries, e)
	}
	return entries
}

// versions: one key with so many numbers, the greatest first.
func versions(key string, count int) []api.Entry {
	var entries []api.Entry
	for i := range count {
		seq := uint64(3*(count-i) - 1)
		if i%4 == 2 {
			entries = append(entries, gone(key, seq))
		} else {
			entries = append(entries, put(key, seq, letters(i%11)))
		}
	}
	return entries
}

// edgeKeys: bytes 0, 1, 127, 128, 255, beginnings of one another, the longest, such as take the most room.
func edgeKeys() []string {
	keys := []string{
		"\x00", "\x00\x00", "\x00\x00\x00", "\x00\x01", "\x00\xff", "\x00a", "\x01", "\x01\x00", "\x01\x01", "\x02", "\x7f", "\x80", "\xff", "\xff\x00", "\xff\xff",
		"a", "a\x00", "a\x00\x00", "a\x00\x01", "a\x00\xff", "a\x01", "aa", "aaa", "aab", "ab", "b", "ba", "é",
		letters(63), letters(64), letters(63) + "\x00", letters(63) + "\xff", noughts(63), noughts(64), strings.Repeat("\xff", 63), strings.Repeat("\xff", 64),
	}
	slices.Sort(keys)
	return keys
}

// edgeSeqs: falling.
func edgeSeqs() []uint64 {
	return []uint64{top, top - 1, 1<<56 + 1, 1 << 56, 1<<32 + 1, 1 << 32, 1<<32 - 1, 256, 255, 3, 2, 1}
}

// crossed: each of some keys with each of some numbers.
func crossed(keys []string, seqs []uint64) []api.Entry {
	var entries []api.Entry
	for i, key := range keys {
		for j, seq := range seqs {
			if (i+j)%3 == 2 {
				entries = append(entries, gone(key, seq))
			} else {
				entries = append(entries, put(key, seq, letters((i*7+j)%9)))
			}
		}
	}
	return entries
}

// filled: entries, and one more with such a value that all of them make a data block of so many bytes.
func filled(t *testing.T, size int, entries ...api.Entry) []api.Entry {
	t.Helper()
	for value := range 513 {
		more := append(slices.Clone(entries), put("m", 40, letters(value)))
		if blocks, _ := cutByWords(more); len(blocks) == 1 && len(blockByWords(blocks[0])) == size {
			return more
		}
	}
	t.Fatalf("no value makes a block of %d bytes", size)
	return nil
}

// edgeBlocks: lists whose blocks have bytes as many as end a block, one less, one more, many more.
func edgeBlocks(t *testing.T) [][]api.Entry {
	t.Helper()
	var lists [][]api.Entry
	behind := []api.Entry{put("m", 39, "z"), put("n", 1, "")}
	for _, size := range []int{200, 254, 255, 256, 257, 258, 300, 500} {
		for _, ahead := range [][]api.Entry{nil, {put("k", 7, letters(100))}, crossed([]string{"a", "b", "k"}, []uint64{9, 5}), {gone("m", 41)}} {
			list := filled(t, size, ahead...)
			lists = append(lists, list, append(slices.Clone(list), behind...), append(slices.Clone(list), numbered("n", 12)...))
		}
	}
	return lists
}

// few: short tables, on the edges.
func few() [][]api.Entry {
	lists := [][]api.Entry{chapters(), {gone("a", 1)}, {put("a", 1, "")}, {put("a", top, "v")}, {gone("a", top)}, numbered("k", 2), numbered("k", 5)}
	for _, key := range edgeKeys() {
		lists = append(lists, []api.Entry{put(key, 1, "")}, []api.Entry{put(key, top, "\x00"), gone(key, 7)})
	}
	for _, value := range []string{"\x00", "\x01", "\x00\x00", "\x01\x00", "\xff", letters(200), letters(232), letters(233), letters(246), letters(247), letters(248), letters(511), letters(512), noughts(512)} {
		lists = append(lists, []api.Entry{put("k", 5, value)}, []api.Entry{put("k", 5, value), gone("k", 4)}, []api.Entry{gone("j", 4), put("k", 5, value)})
	}
	return append(lists, versions("k", 3), crossed([]string{"a", "a\x00", "aa"}, []uint64{9, 8, 1}))
}

// large: tables of many blocks.
func large() [][]api.Entry {
	var whole []api.Entry
	for i, key := range edgeKeys() {
		whole = append(whole, put(key, uint64(100-i), letters(i*17%60)))
	}
	long := numbered("l", 20)
	for i := range long {
		if !long[i].Gone {
			long[i].Value = letters(512 - i)
		}
	}
	return [][]api.Entry{
		whole, long, crossed(edgeKeys(), []uint64{top, 9, 1}), crossed([]string{"\x00", "a", "a\x00", "aa", "b"}, edgeSeqs()),
		versions("k", 60), versions(letters(64), 60), versions(noughts(64), 30), append(versions("k", 30), versions("l", 30)...),
		numbered("k", 60), numbered("key-", 300), numbered(letters(58), 40),
	}
}

// chance: entries that look like chance.
func chance(maker *numberMaker) []api.Entry {
	alphabet := []string{"ab", "\x00\x01\xff", "a", "abcdefghijklmnopqrstuvwxyz"}[maker.below(4)]
	longest := []int{1, 3, 8, 64}[maker.below(4)]
	most := []uint64{3, 20, 1 << 40, top}[maker.below(4)]
	values := []int{1, 4, 60, 513}[maker.below(4)]
	var entries []api.Entry
	for range 1 + maker.below(60) {
		e := put(maker.text(1+maker.below(longest), alphabet), 1+(uint64(maker.next())<<32|uint64(maker.next()))%most, maker.text(maker.below(values), alphabet))
		if maker.below(4) == 0 {
			e = gone(e.Key, e.Seq)
		}
		entries = append(entries, e)
	}
	return sorted(entries)
}

// sorted: entries in their order, of alike ones the first.
func sorted(entries []api.Entry) []api.Entry {
	slices.SortStableFunc(entries, func(a, b api.Entry) int {
		switch {
		case isBehind(a, b):
			return 1
		case isBehind(b, a):
			return -1
		}
		return 0
	})
	return slices.CompactFunc(entries, func(a, b api.Entry) bool { return a.Key == b.Key && a.Seq == b.Seq })
}

// around: each of the keys, texts just below and just above it, and such as are below and above all; rising.
func around(entries []api.Entry) []string {
	out := []string{"", "\x00", "m", letters(65), strings.Repeat("\xff", 65)}
	for _, key := range keysOf(entries) {
		last := len(key) - 1
		out = append(out, key, key+"\x00", key+"\x01", key+"\xff", key[:last], key[:last/2], key[:last]+"\x00", key[:last]+"\xff")
		if key[last] > 0 {
			out = append(out, key[:last]+string([]byte{key[last] - 1})+"\xff")
		}
	}
	slices.Sort(out)
	return slices.Compact(out)
}

// ats: each number, one below and above it, and the edges.
func ats(entries []api.Entry) []uint64 {
	out := []uint64{0, 1, 2, top - 1, top, top + 1, math.MaxUint64 - 1, math.MaxUint64}
	for _, e := range entries {
		out = append(out, e.Seq-1, e.Seq, e.Seq+1)
	}
	slices.Sort(out)
	return slices.Compact(out)
}

// some: not more than so many elements of a list, the first and the last one among them.
func some[T any](list []T, most int) []T {
	if len(list) <= most {
		return list
	}
	var out []T
	for i := range most {
		out = append(out, list[i*(len(list)-1)/(most-1)])
	}
	return out
}

// What is asked.

// shown: an entry, as a failure shows it.
func shown(e api.Entry) string {
	return strconv.Quote(head(e.Key)) + " (" + strconv.Itoa(len(e.Key)) + " bytes) " + strconv.FormatUint(e.Seq, 10) + " " + strconv.Quote(head(e.Value)) + " (" + strconv.Itoa(len(e.Value)) + " bytes) gone " + strconv.FormatBool(e.Gone)
}

func wantAdd(t *testing.T, b *table.Builder, e api.Entry, want string) {
	t.Helper()
	if got, errno := b.Add(e); got != want || errno != api.OK {
		t.Errorf("Add of %s: %x (%d bytes), %d; want %x (%d bytes), OK", shown(e), head(got), len(got), errno, head(want), len(want))
	}
}

func wantNoAdd(t *testing.T, b *table.Builder, e api.Entry, want api.Errno) {
	t.Helper()
	if got, errno := b.Add(e); got != "" || errno != want {
		t.Errorf("Add of %s: %x (%d bytes), %d; want no bytes, %d", shown(e), head(got), len(got), errno, want)
	}
}

func wantFinish(t *testing.T, b *table.Builder, want string, known api.Table) {
	t.Helper()
	if got, what, errno := b.Finish(); got != want || what != known || errno != api.OK {
		t.Errorf("Finish: %x (%d bytes), %v, %d; want %x (%d bytes), %v, OK", head(got), len(got), what, errno, head(want), len(want), known)
	}
}

func wantNoFinish(t *testing.T, b *table.Builder, want api.Errno) {
	t.Helper()
	if got, what, errno := b.Finish(); got != "" || what != (api.Table{}) || errno != want {
		t.Errorf("Finish: %x (%d bytes), %v, %d; want no bytes, nothing known, %d", head(got), len(got), what, errno, want)
	}
}

// wantBuild: a builder that takes some entries tells what the words say, whatever is done amid them.
func wantBuild(t *testing.T, b *table.Builder, entries []api.Entry, n uint64, level int, amid func(count int)) {
	t.Helper()
	pieces, rest := piecesByWords(entries)
	amid(0)
	for i, e := range entries {
		wantAdd(t, b, e, pieces[i])
		amid(i + 1)
	}
	wantFinish(t, b, rest, knownByWords(n, level, entries))
	wantNoFinish(t, b, api.ErrState)
}

// nothing is done amid.
func nothing(int) {}

// build: the bytes that a builder tells.
func build(t *testing.T, entries []api.Entry) string {
	t.Helper()
	b := table.New(1, 0)
	s := ""
	for _, e := range entries {
		piece, errno := b.Add(e)
		if errno != api.OK {
			t.Fatalf("Add of %s: %d", shown(e), errno)
		}
		s += piece
	}
	rest, _, errno := b.Finish()
	if errno != api.OK {
		t.Fatalf("Finish: %d", errno)
	}
	return s + rest
}

// wantForm: some bytes are no table's.
func wantForm(t *testing.T, what, s string) {
	t.Helper()
	if x, errno := table.Open(s); x != nil || errno != api.ErrForm {
		t.Errorf("Open of %s, %x (%d bytes): a table: %v, %d; want none, ErrForm", what, head(s), len(s), x != nil, errno)
	}
}

// wantOpen: some bytes are the table's of these entries.
func wantOpen(t *testing.T, s string, entries []api.Entry) *table.Table {
	t.Helper()
	x, errno := table.Open(s)
	if x == nil || errno != api.OK {
		t.Errorf("Open of %x (%d bytes): a table: %v, %d; want one of %d entries, OK", head(s), len(s), x != nil, errno, len(entries))
		return nil
	}
	if got := x.All(); !slices.Equal(got, entries) {
		t.Errorf("All: %d entries; want %d; the first ones are %v; want %v", len(got), len(entries), got[:min(3, len(got))], entries[:min(3, len(entries))])
	}
	return x
}

func wantGet(t *testing.T, x *table.Table, entries []api.Entry, key string, at uint64) {
	t.Helper()
	want, found := getByWords(entries, key, at)
	if got, ok := x.Get(key, at); got != want || ok != found {
		t.Errorf("Get(%q, %d): %s, %v; want %s, %v", head(key), at, shown(got), ok, shown(want), found)
	}
}

func wantRange(t *testing.T, x *table.Table, entries []api.Entry, from, to string) {
	t.Helper()
	want := rangeByWords(entries, from, to)
	if got := x.Range(from, to); !slices.Equal(got, want) {
		t.Errorf("Range(%q, %q): %d entries; want %d", head(from), head(to), len(got), len(want))
	}
}

func wantMay(t *testing.T, x *table.Table, key string, want bool) {
	t.Helper()
	if got := x.May(key); got != want {
		t.Errorf("May(%q of %d bytes): %v; want %v", head(key), len(key), got, want)
	}
}

// wantTable: a table answers all that may be asked as these entries do.
func wantTable(t *testing.T, x *table.Table, entries []api.Entry) {
	t.Helper()
	keys, seqs := around(entries), ats(entries)
	filter := filterByWords(keysOf(entries))
	for _, key := range some(keys, 300) {
		wantMay(t, x, key, mayByWords(filter, key))
		for _, at := range some(seqs, 24) {
			wantGet(t, x, entries, key, at)
		}
	}
	for _, e := range entries {
		wantMay(t, x, e.Key, true)
		for _, at := range []uint64{0, e.Seq - 1, e.Seq, e.Seq + 1, top, math.MaxUint64} {
			wantGet(t, x, entries, e.Key, at)
		}
	}
	for _, from := range some(keys, 20) {
		for _, to := range some(keys, 20) {
			wantRange(t, x, entries, from, to)
		}
	}
	for _, key := range keys {
		wantRange(t, x, entries, key, "")
		wantRange(t, x, entries, "", key)
	}
}

// wantAsWords: Open of some bytes is what the words say.
func wantAsWords(t *testing.T, what, s string) bool {
	t.Helper()
	entries, ok := entriesByWords(s)
	if !ok {
		wantForm(t, what, s)
		return false
	}
	wantOpen(t, s, entries)
	return true
}

// wantNotAsForged: bytes that are wrong in a way are no table's, by the words neither.
func wantNotAsForged(t *testing.T, what, s string) {
	t.Helper()
	if wantAsWords(t, what, s) {
		t.Errorf("%s: the words take %x (%d bytes) for a table's", what, head(s), len(s))
	}
}

// P12.1

func TestInternalKeysWrittenOut(t *testing.T) {
	for _, x := range []struct {
		key    string
		seq    uint64
		digits string
	}{
		{"a", 5, "02 61 00 01 ff ff ff ff ff ff ff fa"},
		{"", 0, "02 00 01 ff ff ff ff ff ff ff ff"},
		{"", 1, "02 00 01 ff ff ff ff ff ff ff fe"},
		{"", 1 << 63, "02 00 01 7f ff ff ff ff ff ff ff"},
		{"", 1<<63 + 1, "02 00 01 7f ff ff ff ff ff ff fe"},
		{"", math.MaxUint64, "02 00 01 00 00 00 00 00 00 00 00"},
		{"\x00", 0, "02 00 ff 00 01 ff ff ff ff ff ff ff ff"},
		{"\x00", 1, "02 00 ff 00 01 ff ff ff ff ff ff ff fe"},
		{"\x00", math.MaxUint64, "02 00 ff 00 01 00 00 00 00 00 00 00 00"},
		{"\x01", 1 << 63, "02 01 00 01 7f ff ff ff ff ff ff ff"},
		{"\xff", 1<<63 + 1, "02 ff 00 01 7f ff ff ff ff ff ff fe"},
		{"\xff", 1, "02 ff 00 01 ff ff ff ff ff ff ff fe"},
		{"\x00\x01", 2, "02 00 ff 01 00 01 ff ff ff ff ff ff ff fd"},
		{"a\x00b", 0x0102030405060708, "02 61 00 ff 62 00 01 fe fd fc fb fa f9 f8 f7"},
		{"\x00\xff\x00", 255, "02 00 ff ff 00 ff 00 01 ff ff ff ff ff ff ff 00"},
		{"ab", 256, "02 61 62 00 01 ff ff ff ff ff ff fe ff"},
		{"ab", math.MaxUint64 - 1, "02 61 62 00 01 00 00 00 00 00 00 00 01"},
	} {
		if got, want := table.Internal(x.key, x.seq), fromHex(t, x.digits); got != want {
			t.Errorf("Internal(%q, %d): %x; want %x", x.key, x.seq, got, want)
		}
	}
}

func allSeqs() []uint64 {
	return append(edgeSeqs(), 0, top+1, math.MaxUint64-1, math.MaxUint64, 0x0102030405060708, 0xfffefdfcfbfaf9f8)
}

// Of any text and number, also of such as are no entry's.
func TestInternalByTheWords(t *testing.T) {
	keys := append(edgeKeys(), "", letters(65), noughts(65), letters(1024), noughts(5000), letters(1<<16))
	for _, key := range keys {
		for _, seq := range allSeqs() {
			if got, want := table.Internal(key, seq), internalByWords(key, seq); got != want {
				t.Errorf("Internal(%q, %d): %x (%d bytes); want %x (%d bytes)", head(key), seq, head(got), len(got), head(want), len(want))
			}
		}
	}
}

// Internal keys stand by keys, of one key by falling numbers.
func TestInternalKeysInOrder(t *testing.T) {
	var entries []api.Entry
	for _, key := range append(edgeKeys(), "") {
		for _, seq := range allSeqs() {
			entries = append(entries, put(key, seq, ""))
		}
	}
	for _, a := range entries {
		for _, b := range entries {
			got := table.Internal(a.Key, a.Seq) < table.Internal(b.Key, b.Seq)
			if want := isBehind(b, a); got != want {
				t.Fatalf("Internal of %s is below that of %s: %v; want %v", shown(a), shown(b), got, want)
			}
		}
	}
}

func TestNewBuilders(t *testing.T) {
	for _, n := range []uint64{0, 1, 7, 1 << 40, 1 << 63, math.MaxUint64} {
		for _, level := range []int{0, 1, 3, 4, -1, math.MinInt, math.MaxInt} {
			b := table.New(n, level)
			if b == nil {
				t.Fatalf("New(%d, %d): nil", n, level)
			}
			wantNoFinish(t, b, api.ErrState)
			wantBuild(t, b, chapters(), n, level, nothing)
			wantBuild(t, table.New(n, level), versions("k", 40), n, level, nothing)
		}
	}
}

// What New did not make has no number and no level, and is a builder else.
func TestZeroBuilders(t *testing.T) {
	wantNoFinish(t, &table.Builder{}, api.ErrState)
	wantBuild(t, &table.Builder{}, versions("k", 40), 0, 0, nothing)
}

// P12.2

// chapterBytes: the chapter's example, byte by byte.
func chapterBytes(t *testing.T) string {
	t.Helper()
	s := fromHex(t, "00 0c 02610001fffffffffffffffa 02 0078"+
		"0b 01 fc 01 01"+
		"01 0b 620001fffffffffffffff6 02 0079"+
		"00000000 00000003"+
		"0130000260000c80"+
		"00 0c 02620001fffffffffffffff6 02 002e 00000000 00000001"+
		"0000002e 00000036 00000003")
	return summed(s)
}

func TestTheChaptersExample(t *testing.T) {
	s := chapterBytes(t)
	b := table.New(7, 1)
	for _, e := range chapters() {
		wantAdd(t, b, e, "")
	}
	wantFinish(t, b, s, api.Table{N: 7, Level: 1, Count: 3, Size: len(s), First: "a", Last: "b", Least: 3, Most: 9})
	wantNoAdd(t, b, put("c", 1, ""), api.ErrState)
	x := wantOpen(t, s, chapters())
	for _, c := range []struct {
		key  string
		at   uint64
		want api.Entry
		ok   bool
	}{{"a", 9, put("a", 5, "x"), true}, {"a", 4, gone("a", 3), true}, {"a", 2, api.Entry{}, false}, {"b", 8, api.Entry{}, false}} {
		if got, ok := x.Get(c.key, c.at); got != c.want || ok != c.ok {
			t.Errorf("Get(%s, %d): %s, %v", c.key, c.at, shown(got), ok)
		}
	}
	if got := x.Range("a", "b"); !slices.Equal(got, chapters()[:2]) {
		t.Errorf("Range: %v", got)
	}
}

func TestTheChaptersErrors(t *testing.T) {
	b := table.New(7, 1)
	wantAdd(t, b, put("a", 5, "x"), "")
	wantNoAdd(t, b, put("a", 6, "x"), api.ErrArg)
	wantNoAdd(t, b, put("a", 5, "x"), api.ErrArg)
	wantNoAdd(t, b, put("", 4, "x"), api.ErrArg)
	wantFinish(t, b, tableByWords(chapters()[:1]), knownByWords(7, 1, chapters()[:1]))
	wantNoAdd(t, b, put("b", 1, ""), api.ErrState)
}

// A value that ends a block alone, and the whole behind it, written out.
func TestABlockWrittenOut(t *testing.T) {
	v := letters(300)
	data := fromHex(t, "00 0c 026b0001fffffffffffffff8 f9012d 00") + v + fromHex(t, "00000000 00000001")
	if len(data) != 326 {
		t.Fatalf("the block has %d bytes", len(data))
	}
	b := table.New(0, 0)
	wantAdd(t, b, put("k", 7, v), data)
	index := fromHex(t, "00 0c 026b0001fffffffffffffff8 04 00 f90146 00000000 00000001")
	s := summed(data + filterByWords([]string{"k"}) + index + four(326) + four(334) + four(1))
	wantFinish(t, b, s[326:], api.Table{Count: 1, Size: len(s), First: "k", Last: "k", Least: 7, Most: 7})
	wantOpen(t, s, []api.Entry{put("k", 7, v)})
}

func TestNilBuilders(t *testing.T) {
	var b *table.Builder
	for range 2 {
		for _, e := range []api.Entry{{}, put("a", 1, ""), put("", 0, ""), put(letters(65), 1, ""), put("a", 0, letters(513)), {Key: "a", Value: "v", Seq: 1, Gone: true}} {
			wantNoAdd(t, b, e, api.ErrNil)
		}
		wantNoFinish(t, b, api.ErrNil)
	}
}

// errnoByWords: what Add answers, of a builder that was not finished.
func errnoByWords(entries []api.Entry, e api.Entry) api.Errno {
	switch {
	case len(e.Key) > 64 || len(e.Value) > 512:
		return api.ErrLong
	case !mayBe(e) || len(entries) > 0 && !isBehind(e, entries[len(entries)-1]):
		return api.ErrArg
	}
	return api.OK
}

// tries: entries on both sides of each edge.
func tries() []api.Entry {
	keys := []string{"", "\x00", "k", "l", "z"}
	for _, size := range []int{63, 64, 65, 66, 128, 1024, 1025, 1 << 16} {
		keys = append(keys, letters(size), "z"+letters(size-1), noughts(size))
	}
	var out []api.Entry
	for _, key := range keys {
		for _, size := range []int{0, 1, 511, 512, 513, 514, 1024, 1025, 1 << 16} {
			for _, seq := range []uint64{0, 1, 2, top - 1, top, top + 1, math.MaxUint64} {
				out = append(out, put(key, seq, letters(size)), api.Entry{Key: key, Value: letters(size), Seq: seq, Gone: true})
			}
		}
	}
	return out
}

// Each try stands alone behind some entries: it is taken, or leaves no trace.
func TestAddOnTheEdges(t *testing.T) {
	taken := 0
	for _, ahead := range [][]api.Entry{nil, {put("k", 2, "v")}, {gone("k", 1)}, {put("k", top, "")}, filled(t, 256)} {
		for _, e := range tries() {
			b := table.New(3, 2)
			pieces, rest := piecesByWords(ahead)
			for i, a := range ahead {
				wantAdd(t, b, a, pieces[i])
			}
			has := slices.Clone(ahead)
			if want := errnoByWords(ahead, e); want != api.OK {
				wantNoAdd(t, b, e, want)
			} else {
				has = append(has, e)
				pieces, rest = piecesByWords(has)
				wantAdd(t, b, e, pieces[len(ahead)])
				taken++
			}
			if len(has) == 0 {
				wantNoFinish(t, b, api.ErrState)
			} else {
				wantFinish(t, b, rest, knownByWords(3, 2, has))
			}
		}
	}
	if taken < 100 {
		t.Errorf("%d were taken; want more", taken)
	}
}

// What is too long is told ahead of what else is wrong.
func TestTooLongBesideOtherFaults(t *testing.T) {
	b := table.New(1, 1)
	wantAdd(t, b, put("m", 5, ""), "")
	for _, key := range []string{letters(65), "z" + letters(64), noughts(65), letters(1 << 16)} {
		for _, e := range []api.Entry{put(key, 1, ""), put(key, 0, ""), put(key, top+1, "v"), {Key: key, Value: "v", Gone: true}, put(key, 9, letters(513)), gone(key, 0)} {
			wantNoAdd(t, b, e, api.ErrLong)
		}
	}
	for _, key := range []string{"", "a", "m", "z"} {
		for _, seq := range []uint64{0, 1, 5, 6, top + 1} {
			wantNoAdd(t, b, put(key, seq, letters(513)), api.ErrLong)
			wantNoAdd(t, b, api.Entry{Key: key, Seq: seq, Value: letters(513), Gone: true}, api.ErrLong)
		}
	}
	wantFinish(t, b, tableByWords([]api.Entry{put("m", 5, "")}), knownByWords(1, 1, []api.Entry{put("m", 5, "")}))
}

// wrong: entries that a builder does not take behind some, and what it answers.
func wrong(entries []api.Entry) map[api.Entry]api.Errno {
	out := map[api.Entry]api.Errno{
		{}:                                   api.ErrArg,
		put("", 1, "v"):                      api.ErrArg,
		gone("", 1):                          api.ErrArg,
		put("\xff\xff", 0, "v"):              api.ErrArg,
		gone("\xff\xff", 0):                  api.ErrArg,
		put("\xff\xff", top+1, "v"):          api.ErrArg,
		put("\xff\xff", math.MaxUint64, "v"): api.ErrArg,
		put(letters(65), 1, ""):              api.ErrLong,
		put("\xff"+letters(64), 1, ""):       api.ErrLong,
		put("\xff\xff", 1, letters(513)):     api.ErrLong,
		put("", 0, letters(513)):             api.ErrLong,
		{Key: "\xff\xff", Seq: 1, Value: "v", Gone: true}: api.ErrArg,
	}
	if len(entries) == 0 {
		return out
	}
	last := entries[len(entries)-1]
	out[last] = api.ErrArg
	out[put(last.Key, last.Seq, "other")] = api.ErrArg
	out[gone(last.Key, last.Seq)] = api.ErrArg
	out[put(last.Key, last.Seq+1, "")] = api.ErrArg
	out[put(last.Key, top, "v")] = api.ErrArg
	out[put(last.Key+"\x00", 0, "")] = errnoByWords(entries, put(last.Key+"\x00", 0, ""))
	out[put(last.Key, 0, "")] = api.ErrArg
	if cut := last.Key[:len(last.Key)-1]; cut != "" {
		out[put(cut, 1, "")] = api.ErrArg
	}
	for _, e := range some(entries, 5) {
		out[e] = api.ErrArg
		out[put(e.Key, e.Seq+1, "")] = api.ErrArg
	}
	return out
}

func TestErrorsChangeNothing(t *testing.T) {
	for _, entries := range slices.Concat(few(), edgeBlocks(t), large()) {
		b := table.New(9, 3)
		wantBuild(t, b, entries, 9, 3, func(count int) {
			if count == 0 {
				wantNoFinish(t, b, api.ErrState)
			}
			for e, errno := range wrong(entries[:count]) {
				wantNoAdd(t, b, e, errno)
			}
		})
		for e := range wrong(entries) {
			wantNoAdd(t, b, e, api.ErrState)
		}
	}
}

func TestTablesByTheWords(t *testing.T) {
	for _, entries := range slices.Concat(few(), edgeBlocks(t), large()) {
		wantBuild(t, table.New(5, 2), entries, 5, 2, nothing)
	}
}

func TestManyTablesByTheWords(t *testing.T) {
	maker := numberMaker(1)
	for range 600 {
		entries := chance(&maker)
		wantBuild(t, table.New(5, 2), entries, 5, 2, nothing)
	}
}

// Where a block ends: behind the entry by which its bytes are 256 or more.
func TestWhereBlocksEnd(t *testing.T) {
	for size, ends := range map[int]bool{200: false, 254: false, 255: false, 256: true, 257: true, 300: true, 500: true} {
		for _, ahead := range [][]api.Entry{nil, {put("k", 7, letters(100))}, crossed([]string{"a", "b"}, []uint64{9, 5})} {
			list := filled(t, size, ahead...)
			b := table.New(0, 0)
			for i, e := range list {
				piece, errno := b.Add(e)
				want := 0
				if i == len(list)-1 && ends {
					want = size
				}
				if len(piece) != want || errno != api.OK {
					t.Errorf("a block of %d bytes: Add tells %d bytes, %d; want %d", size, len(piece), errno, want)
				}
			}
			// A block that was told is not told again, and there is no empty one behind it.
			index := []pair{{pairByWords(list[len(list)-1]).key, numberRow(0) + numberRow(uint64(size))}}
			want := len(filterByWords(keysOf(list))) + len(blockByWords(index)) + 16
			all := size + want
			if !ends {
				want = all
			}
			if rest, known, _ := b.Finish(); len(rest) != want || known.Size != all {
				t.Errorf("a block of %d bytes: Finish tells %d bytes, %d in all; want %d, %d", size, len(rest), known.Size, want, all)
			}
		}
	}
}

func TestOneKeyThatFillsManyBlocks(t *testing.T) {
	entries := versions("key", 500)
	b := table.New(1, 0)
	blocks := 0
	for _, e := range entries {
		if piece, _ := b.Add(e); piece != "" {
			blocks++
		}
	}
	rest, known, errno := b.Finish()
	if blocks < 10 || errno != api.OK || known.First != "key" || known.Last != "key" || known.Count != 500 {
		t.Errorf("%d blocks, %v, %d", blocks, known, errno)
	}
	// The filter has the key once: it is no longer than one of a single key.
	if !strings.Contains(rest, filterByWords([]string{"key"})) {
		t.Errorf("Finish tells no filter of one key")
	}
	x := wantOpen(t, build(t, entries), entries)
	wantTable(t, x, entries)
}

func TestBuildersFinished(t *testing.T) {
	for _, entries := range few() {
		b := table.New(1, 0)
		wantBuild(t, b, entries, 1, 0, nothing)
		for range 3 {
			wantNoFinish(t, b, api.ErrState)
			for _, e := range []api.Entry{{}, put("\xff\xff\xff", 1, ""), put("", 0, letters(513)), put(letters(65), 1, ""), entries[0], entries[len(entries)-1]} {
				wantNoAdd(t, b, e, api.ErrState)
			}
		}
	}
}

// Finish without entries does not finish: entries may come yet.
func TestFinishWithoutEntries(t *testing.T) {
	b := table.New(4, 1)
	for range 3 {
		wantNoFinish(t, b, api.ErrState)
		wantNoAdd(t, b, put("", 1, ""), api.ErrArg)
		wantNoAdd(t, b, put(letters(65), 1, ""), api.ErrLong)
	}
	wantBuild(t, b, chapters(), 4, 1, nothing)
}

func TestWhatIsKnown(t *testing.T) {
	for _, x := range []struct {
		entries []api.Entry
		known   api.Table
	}{
		{[]api.Entry{put("k", 4, "v")}, api.Table{Count: 1, First: "k", Last: "k", Least: 4, Most: 4}},
		{[]api.Entry{gone("k", top)}, api.Table{Count: 1, First: "k", Last: "k", Least: top, Most: top}},
		{[]api.Entry{put("k", 4, "v"), gone("k", 2)}, api.Table{Count: 2, First: "k", Last: "k", Least: 2, Most: 4}},
		{[]api.Entry{put("a", 4, ""), put("b", 9, ""), put("b", 1, ""), put("c", 5, "")}, api.Table{Count: 4, First: "a", Last: "c", Least: 1, Most: 9}},
		{[]api.Entry{put("a", 1, ""), put("b", 2, ""), put("c", 3, "")}, api.Table{Count: 3, First: "a", Last: "c", Least: 1, Most: 3}},
		{[]api.Entry{put("a", 3, ""), put("b", 2, ""), put("c", 1, "")}, api.Table{Count: 3, First: "a", Last: "c", Least: 1, Most: 3}},
		{[]api.Entry{put("\x00", top, ""), put("\xff", 1, "")}, api.Table{Count: 2, First: "\x00", Last: "\xff", Least: 1, Most: top}},
	} {
		b := table.New(6, 3)
		size := 0
		for _, e := range x.entries {
			piece, _ := b.Add(e)
			size += len(piece)
		}
		rest, known, _ := b.Finish()
		x.known.N, x.known.Level, x.known.Size = 6, 3, size+len(rest)
		if known != x.known {
			t.Errorf("known: %v; want %v", known, x.known)
		}
	}
}

// Two builders at once know nothing of one another.
func TestBuildersBesideOneAnother(t *testing.T) {
	one, two := table.New(1, 0), table.New(2, 1)
	a, z := numbered("a", 50), numbered("z", 50)
	as, aRest := piecesByWords(a)
	zs, zRest := piecesByWords(z)
	for i := range a {
		wantAdd(t, one, z[i], zs[i])
		wantAdd(t, two, a[i], as[i])
	}
	wantFinish(t, one, zRest, knownByWords(1, 0, z))
	wantNoAdd(t, one, put("zz", 1, ""), api.ErrState)
	wantFinish(t, two, aRest, knownByWords(2, 1, a))
}

// P12.3

func TestTablesOpened(t *testing.T) {
	for _, entries := range slices.Concat(few(), edgeBlocks(t), large()) {
		x := wantOpen(t, tableByWords(entries), entries)
		wantTable(t, x, entries)
	}
}

func TestNilAndZeroTables(t *testing.T) {
	var none *table.Table
	for _, x := range []*table.Table{none, {}} {
		for _, key := range append(edgeKeys(), "", letters(65)) {
			wantMay(t, x, key, false)
			for _, at := range allSeqs() {
				wantGet(t, x, nil, key, at)
			}
			wantRange(t, x, nil, key, "")
			wantRange(t, x, nil, "", key)
			wantRange(t, x, nil, key, key+"z")
		}
		wantRange(t, x, nil, "", "")
		if got := x.All(); len(got) != 0 {
			t.Errorf("All: %v", got)
		}
	}
}

func TestRangesOfTheEdges(t *testing.T) {
	entries := crossed([]string{"a", "a\x00", "aa", "b", "c"}, []uint64{9, 5})
	x := wantOpen(t, tableByWords(entries), entries)
	for _, c := range []struct {
		from, to string
		want     []api.Entry
	}{
		{"", "", entries}, {"", "a", nil}, {"", "a\x00", entries[:2]}, {"a", "a", nil}, {"a", "a\x00", entries[:2]}, {"a\x00", "aa", entries[2:4]},
		{"a", "b", entries[:6]}, {"b", "a", nil}, {"b", "", entries[6:]}, {"aab", "bz", entries[6:8]}, {"c", "", entries[8:]}, {"c\x00", "", nil}, {"d", "", nil}, {"\x00", "\x01", nil}, {"\xff", "", nil}, {"", "\xff", entries}, {"c", "b", nil}, {"d", "a", nil},
	} {
		if got := x.Range(c.from, c.to); !slices.Equal(got, c.want) {
			t.Errorf("Range(%q, %q): %v; want %v", c.from, c.to, got, c.want)
		}
	}
}

func TestGetsOfTheEdges(t *testing.T) {
	entries := []api.Entry{put("a", top, "1"), gone("a", 7), put("a", 6, ""), put("a", 1, "2"), put("ab", 5, "3")}
	x := wantOpen(t, tableByWords(entries), entries)
	for _, c := range []struct {
		key  string
		at   uint64
		want int
	}{
		{"a", math.MaxUint64, 0}, {"a", top + 1, 0}, {"a", top, 0}, {"a", top - 1, 1}, {"a", 8, 1}, {"a", 7, 1}, {"a", 6, 2}, {"a", 5, 3}, {"a", 2, 3}, {"a", 1, 3}, {"a", 0, -1},
		{"ab", math.MaxUint64, 4}, {"ab", 5, 4}, {"ab", 4, -1}, {"ab", 0, -1}, {"abc", 5, -1}, {"", 9, -1}, {"", 0, -1}, {"b", math.MaxUint64, -1}, {"aa", 5, -1}, {"\x00", 5, -1},
	} {
		got, ok := x.Get(c.key, c.at)
		want := api.Entry{}
		if c.want >= 0 {
			want = entries[c.want]
		}
		if got != want || ok != (c.want >= 0) {
			t.Errorf("Get(%q, %d): %s, %v; want %s", c.key, c.at, shown(got), ok, shown(want))
		}
	}
}

// What a filter might have is denied by none, and what is there is found.
func TestKeysThatAFilterMightHave(t *testing.T) {
	entries := numbered("k", 100)
	x := wantOpen(t, tableByWords(entries), entries)
	filter := filterByWords(keysOf(entries))
	might := 0
	for i := range 20000 {
		key := "other" + strconv.Itoa(i)
		wantMay(t, x, key, mayByWords(filter, key))
		wantGet(t, x, entries, key, math.MaxUint64)
		if x.May(key) {
			might++
		}
	}
	if might == 0 || might > 2000 {
		t.Errorf("of 20000 other keys the filter might have %d", might)
	}
}

// changeable: tables whose bytes are changed.
func changeable(t *testing.T) [][]api.Entry {
	t.Helper()
	return [][]api.Entry{chapters(), {put("a", 1, "")}, {gone("\x00", top)}, filled(t, 255), filled(t, 256), crossed([]string{"a", "a\x00"}, []uint64{9, 8}), versions("k", 24), numbered("k", 12)}
}

func TestBytesCutOrWithMore(t *testing.T) {
	for _, entries := range changeable(t) {
		s := tableByWords(entries)
		for at := range len(s) {
			wantForm(t, "bytes cut short", s[:at])
			wantAsWords(t, "bytes without their beginning", s[at:])
			wantAsWords(t, "bytes without one of them", s[:at]+s[at+1:])
			// With a right sum.
			wantAsWords(t, "bytes cut short, summed", summed(s[:at]))
			wantAsWords(t, "bytes cut short, the sum behind", resummed(s[:at]))
			wantAsWords(t, "bytes without their beginning, summed", resummed(s[at:]))
			wantAsWords(t, "bytes without one of them, summed", resummed(s[:at]+s[at+1:]))
			for _, more := range []string{"\x00", "\xff", s[at : at+1], "\x00\x00\x00\x00"} {
				wantAsWords(t, "bytes with more in them", s[:at]+more+s[at:])
				wantAsWords(t, "bytes with more in them, summed", resummed(s[:at]+more+s[at:]))
			}
		}
		for _, more := range []string{"\x00", "\x01", "\xff", "\x00\x00", "\x00\x00\x00", "\x00\x00\x00\x00", noughts(16), s, s[len(s)-16:]} {
			wantForm(t, "bytes with more behind", s+more)
			wantForm(t, "bytes with more behind, summed", resummed(s+more))
			wantForm(t, "bytes with more behind, summed", summed(s+more))
			wantAsWords(t, "bytes with more ahead", more+s)
			wantAsWords(t, "bytes with more ahead, summed", resummed(more+s))
		}
	}
}

func TestSmallBytes(t *testing.T) {
	wantForm(t, "the empty text", "")
	for size := range 64 {
		wantForm(t, "noughts", noughts(size))
		wantForm(t, "noughts, summed", summed(noughts(size)))
		wantForm(t, "bytes 255", strings.Repeat("\xff", size))
		wantForm(t, "letters", letters(size))
		wantForm(t, "letters, summed", summed(letters(size)))
	}
}

// Any one byte changed to each other value, the sum wrong or right.
func TestEachByteChanged(t *testing.T) {
	opened := 0
	for i, entries := range changeable(t) {
		row := []byte(tableByWords(entries))
		masks := []int{1, 2, 3, 4, 8, 16, 32, 64, 128, 255}
		if i < 3 {
			masks = nil
			for mask := 1; mask < 256; mask++ {
				masks = append(masks, mask)
			}
		}
		for at, was := range row {
			for _, mask := range masks {
				row[at] = was ^ byte(mask)
				wantForm(t, "bytes with one changed", string(row))
				if at < len(row)-4 && wantAsWords(t, "bytes with one changed, summed", resummed(string(row))) {
					opened++
				}
			}
			row[at] = was
		}
	}
	// Bytes of values may be others.
	if opened < 100 {
		t.Errorf("%d changed tables are others; want more", opened)
	}
}

// Of two bytes to four side by side that are turned, a sum tells.
func TestBytesSideBySideTurned(t *testing.T) {
	maker := numberMaker(7)
	for _, entries := range changeable(t) {
		s := tableByWords(entries)
		for at := range len(s) - 3 {
			for range 4 {
				row := []byte(s)
				for i := range 4 {
					row[at+i] ^= byte(maker.next())
				}
				if string(row) != s {
					wantForm(t, "bytes turned side by side", string(row))
				}
			}
		}
	}
}

// Tables' bytes, changed in a few places in ways that look like chance, with a right sum.
func TestManyChangedBytes(t *testing.T) {
	maker := numberMaker(2)
	lists := append(changeable(t), few()[:20]...)
	opened := 0
	for range 30000 {
		row := []byte(tableByWords(lists[maker.below(len(lists))]))
		for range 1 + maker.below(3) {
			at := maker.below(len(row))
			size := min(maker.below(5), len(row)-at)
			switch maker.below(4) {
			case 0:
				row[at] = byte(maker.next())
			case 1:
				row[at] += byte(maker.below(3) - 1)
			case 2:
				row = slices.Delete(row, at, at+size)
			case 3:
				row = slices.Insert(row, at, row[at:at+size]...)
			}
			if len(row) == 0 {
				break
			}
		}
		if wantAsWords(t, "changed bytes", resummed(string(row))) {
			opened++
		}
	}
	if opened < 300 {
		t.Errorf("%d changed texts are tables'; want more", opened)
	}
}

// forged: a table's parts, to be changed and put together with right places and a right sum.
type forged struct {
	blocks        [][]pair
	filter, index string
	count         int
}

func forge(entries []api.Entry) forged {
	blocks, _ := cutByWords(entries)
	return forged{blocks, filterByWords(keysOf(entries)), blockByWords(indexOf(blocks)), len(entries)}
}

func (f forged) bytes() string {
	return assembled(strings.Join(rowsOf(f.blocks), ""), f.filter, f.index, f.count)
}

// forgeable: tables of one block, of two, of more.
func forgeable(t *testing.T) [][]api.Entry {
	t.Helper()
	return [][]api.Entry{chapters(), filled(t, 256), append(filled(t, 256), put("n", 1, "")), numbered("k", 40), versions("k", 40), large()[0]}
}

func TestForgedAsIs(t *testing.T) {
	for _, entries := range forgeable(t) {
		wantOpen(t, forge(entries).bytes(), entries)
	}
}

func TestFootsThatAreWrong(t *testing.T) {
	for _, entries := range forgeable(t) {
		s := tableByWords(entries)
		foot := len(s) - 16
		for field := range 3 {
			at := foot + 4*field
			c := cutter{rest: s[at:]}
			right := int(c.four())
			for n := range len(s) + 20 {
				if n != right {
					wantForm(t, "another number in the foot", resummed(s[:at]+four(n)+s[at+4:]))
				}
			}
			for _, n := range []int{1 << 16, 1 << 24, 1<<31 - 1, 1 << 31, 1<<32 - 16, 1<<32 - 4, 1<<32 - 1, right + 1<<8, right + 1<<16, right + 1<<24, right + 1<<31} {
				wantForm(t, "a number in the foot that is far off", resummed(s[:at]+four(n)+s[at+4:]))
			}
			wantForm(t, "a number too few", resummed(s[:at]+s[at+4:]))
			wantForm(t, "a number twice", resummed(s[:at+4]+s[at:]))
		}
		wantForm(t, "places in another row", resummed(s[:foot]+s[foot+4:foot+8]+s[foot:foot+4]+s[foot+8:]))
		for _, places := range [][2]int{{0, 0}, {foot, foot}, {foot, 0}, {0, foot}, {1<<32 - 1, 1<<32 - 1}, {1<<32 - 2, 1<<32 - 1}, {foot + 16, foot + 16}} {
			wantForm(t, "other places", resummed(s[:foot]+four(places[0])+four(places[1])+s[foot+8:]))
		}
		sum := crc32.ChecksumIEEE([]byte(s[:len(s)-4]))
		for _, other := range []uint32{0, ^sum, sum + 1, sum - 1, crc32.ChecksumIEEE([]byte(s[:foot])), crc32.ChecksumIEEE([]byte(s)), sum>>24 | sum>>8&0xff00 | sum<<8&0xff0000 | sum<<24} {
			if other != sum {
				wantForm(t, "another sum", s[:len(s)-4]+four(int(other)))
			}
		}
		wantForm(t, "bytes between the index and the foot", resummed(s[:foot]+"\x00"+s[foot:]))
	}
}

func TestFiltersThatAreOthers(t *testing.T) {
	for _, entries := range forgeable(t) {
		right := forge(entries)
		keys := keysOf(entries)
		filters := []string{
			"", noughts(len(right.filter)), strings.Repeat("\xff", len(right.filter)), right.filter + "\x00", "\x00" + right.filter, right.filter[1:], right.filter[:len(right.filter)-1], right.filter + right.filter,
			filterByWords(nil), filterByWords(append(slices.Clone(keys), "other")), filterByWords(append(slices.Clone(keys), keys...)), filterByWords(keys[1:]), filterByWords(keys[:len(keys)-1]),
		}
		var all []string
		for _, e := range entries {
			all = append(all, e.Key)
		}
		// Of the keys, each as often as it has versions; of internal keys.
		filters = append(filters, filterByWords(all))
		var places []string
		for _, e := range entries {
			places = append(places, internalByWords(e.Key, e.Seq))
		}
		filters = append(filters, filterByWords(places))
		for bit := range 8 * len(right.filter) {
			row := []byte(right.filter)
			row[bit/8] ^= 1 << (bit % 8)
			filters = append(filters, string(row))
		}
		for _, filter := range filters {
			f := right
			f.filter = filter
			if filter != right.filter {
				wantNotAsForged(t, "another filter", f.bytes())
			}
		}
	}
}

func TestIndicesThatAreOthers(t *testing.T) {
	for _, entries := range forgeable(t) {
		right := forge(entries)
		index := indexOf(right.blocks)
		try := func(what string, pairs []pair) {
			t.Helper()
			f := right
			f.index = blockByWords(pairs)
			if f.index != right.index {
				wantNotAsForged(t, "an index with "+what, f.bytes())
			}
		}
		try("nothing", nil)
		try("one more at the end", append(slices.Clone(index), pair{"\xff", "\x00\x04"}))
		try("one more ahead", append([]pair{{"", "\x00\x00"}}, index...))
		for i, p := range index {
			with := func(key, value string) []pair {
				other := slices.Clone(index)
				other[i] = pair{key, value}
				return other
			}
			try("an entry too few", slices.Delete(slices.Clone(index), i, i+1))
			try("an entry twice", slices.Insert(slices.Clone(index), i, p))
			for _, key := range []string{p.key + "\x00", p.key[:len(p.key)-1], p.key[:len(p.key)-8], p.key[1:], "", "\xff", right.blocks[i][0].key, right.blocks[i][0].key + "\x00"} {
				try("another key", with(key, p.value))
			}
			c := cutter{rest: p.value}
			at, size := c.number(), c.number()
			for _, n := range []uint64{0, 1, at - 1, at + 1, at + size, 247, 248, 1 << 16, 1 << 31, 1 << 32, at + 1<<32, 1<<63 - 1, 1 << 63, math.MaxUint64} {
				try("another place", with(p.key, numberRow(n)+numberRow(size)))
			}
			for _, n := range []uint64{0, 1, 4, size - 1, size + 1, size + 4, 1 << 16, 1 << 31, 1 << 32, size + 1<<32, 1<<63 - 1, 1 << 63, math.MaxUint64} {
				try("another size", with(p.key, numberRow(at)+numberRow(n)))
			}
			for _, value := range []string{"", numberRow(at), numberRow(size), numberRow(size) + numberRow(at), p.value + "\x00", "\x00" + p.value, p.value + p.value, p.value[:len(p.value)-1], four(int(at)) + four(int(size))} {
				try("another value", with(p.key, value))
			}
			for _, n := range []uint64{at, size} {
				for k := 1; k <= 8; k++ {
					long := string([]byte{byte(247 + k)}) + (noughts(4) + four(int(n)))[8-k:]
					if n == at {
						try("a place in another form", with(p.key, long+numberRow(size)))
					}
					if n == size {
						try("a size in another form", with(p.key, numberRow(at)+long))
					}
				}
			}
		}
	}
	// The bytes of an index that is no block.
	f := forge(chapters())
	for _, index := range []string{"", "\x00", four(1), f.index + "\x00", "\x00" + f.index, f.index[:len(f.index)-1], f.index[1:], f.index + four(0), f.index + f.index} {
		f.index = index
		wantNotAsForged(t, "an index that is none", f.bytes())
	}
}

// allCuts: a list cut into parts that are not empty, in each way.
func allCuts(pairs []pair) [][][]pair {
	var cuts [][][]pair
	for set := range 1 << (len(pairs) - 1) {
		blocks := [][]pair{{pairs[0]}}
		for i, p := range pairs[1:] {
			if set>>i&1 == 1 {
				blocks = append(blocks, nil)
			}
			last := len(blocks) - 1
			blocks[last] = append(blocks[last], p)
		}
		cuts = append(cuts, blocks)
	}
	return cuts
}

// Data blocks are cut at one place only.
func TestBlocksCutAtOtherPlaces(t *testing.T) {
	for _, entries := range [][]api.Entry{chapters(), numbered("key", 9), versions("k", 12), {put("a", 1, letters(100)), put("b", 1, letters(100)), put("c", 1, letters(100)), put("d", 1, letters(512)), put("e", 1, "")}, append(filled(t, 256), put("n", 1, "")), append(filled(t, 255), put("n", 1, ""))} {
		var pairs []pair
		for _, e := range entries {
			pairs = append(pairs, pairByWords(e))
		}
		opened := 0
		for _, blocks := range allCuts(pairs) {
			if wantAsWords(t, "blocks cut at other places", blocked(blocks, keysOf(entries))) {
				opened++
			}
		}
		if opened != 1 {
			t.Errorf("of %d entries, %d cuts are opened; want 1", len(entries), opened)
		}
	}
}

func TestBlocksThatAreOthers(t *testing.T) {
	for _, entries := range forgeable(t) {
		right := forge(entries)
		data := strings.Join(rowsOf(right.blocks), "")
		// Places and sizes stay right for what stands there.
		for _, other := range []string{"\x00" + data, data + "\x00", data[1:], data[:len(data)-1], data + four(0), four(0) + data, data + data, ""} {
			wantNotAsForged(t, "other data", assembled(other, right.filter, right.index, right.count))
		}
		for i := range right.blocks {
			f := forge(entries)
			f.blocks = slices.Insert(f.blocks, i, nil)
			f.index = blockByWords(indexOf(f.blocks))
			wantNotAsForged(t, "an empty block", f.bytes())
			f = forge(entries)
			f.blocks = slices.Delete(f.blocks, i, i+1)
			wantNotAsForged(t, "a block too few", f.bytes())
			f = forge(entries)
			f.blocks = slices.Insert(f.blocks, i, f.blocks[i])
			f.count += len(f.blocks[i])
			f.index = blockByWords(indexOf(f.blocks))
			wantNotAsForged(t, "a block twice", f.bytes())
			if i > 0 {
				f = forge(entries)
				f.blocks[i-1], f.blocks[i] = f.blocks[i], f.blocks[i-1]
				f.index = blockByWords(indexOf(f.blocks))
				wantNotAsForged(t, "blocks in another row", f.bytes())
			}
		}
		f := forge(entries)
		f.blocks = append(f.blocks, nil)
		f.index = blockByWords(indexOf(f.blocks))
		wantNotAsForged(t, "an empty block at the end", f.bytes())
		slices.Reverse(f.blocks)
		f.index = blockByWords(append(indexOf(f.blocks)[:0], pair{"", "\x00\x04"}))
		wantNotAsForged(t, "an empty block alone", f.bytes())
	}
}

// A sum that is right, of a block whose own bytes are not the shortest ones.
func TestBlocksInAnotherForm(t *testing.T) {
	e := put("k", 5, "v")
	p := pairByWords(e)
	index := pair{p.key, "\x00"}
	for what, data := range map[string]string{
		"a length in two bytes":   "\x00\xf8" + textRow(p.key) + textRow(p.value) + four(0) + four(1),
		"a share in two bytes":    "\xf8\x00" + textRow(p.key) + textRow(p.value) + four(0) + four(1),
		"a value's in two bytes":  "\x00" + textRow(p.key) + "\xf8" + textRow(p.value) + four(0) + four(1),
		"bytes ahead":             "\x00\x00" + textRow(p.key) + textRow(p.value) + four(0) + four(1),
		"bytes behind the values": "\x00" + textRow(p.key) + textRow(p.value) + "\x00" + four(0) + four(1),
		"a wrong restart":         "\x00" + textRow(p.key) + textRow(p.value) + four(1) + four(1),
		"a restart more":          "\x00" + textRow(p.key) + textRow(p.value) + four(0) + four(0) + four(1),
		"no restart":              "\x00" + textRow(p.key) + textRow(p.value) + four(1),
		"a count more":            "\x00" + textRow(p.key) + textRow(p.value) + four(0) + four(2),
		"a count less":            "\x00" + textRow(p.key) + textRow(p.value) + four(0) + four(0),
	} {
		s := assembled(data, filterByWords([]string{"k"}), blockByWords([]pair{{index.key, index.value + numberRow(uint64(len(data)))}}), 1)
		wantNotAsForged(t, "a block with "+what, s)
	}
	data := blockByWords([]pair{p})
	s := assembled(data, filterByWords([]string{"k"}), blockByWords([]pair{{index.key, index.value + numberRow(uint64(len(data)))}}), 1)
	wantOpen(t, s, []api.Entry{e})
}

// Entries that may not be, alone, behind others and ahead of others.
func TestEntriesThatMayNotBe(t *testing.T) {
	for what, e := range map[string]api.Entry{
		"no key":             put("", 1, "v"),
		"no key, gone":       gone("", 1),
		"a key of 65 bytes":  put("k"+letters(64), 1, "v"),
		"65 bytes 0":         put("k"+noughts(64), 1, "v"),
		"a key of 100 bytes": put("k"+letters(99), 1, "v"),
		"a long value":       put("k", 1, letters(513)),
		"a longer value":     put("k", 1, letters(1000)),
		"the number 0":       put("k", 0, "v"),
		"gone at 0":          gone("k", 0),
		"above 2^63":         put("k", top+1, "v"),
		"2^64 - 1":           put("k", math.MaxUint64, "v"),
		"gone above 2^63":    gone("k", top+1),
		"gone with a value":  {Key: "k", Seq: 1, Value: "v", Gone: true},
		"gone with a byte 0": {Key: "k", Seq: 1, Value: "\x00", Gone: true},
		"gone with a byte 1": {Key: "k", Seq: 1, Value: "\x01", Gone: true},
	} {
		for _, list := range [][]api.Entry{{e}, {put("a", 1, ""), e}, {e, put("z", 1, "")}, append(numbered("a", 30), e), append([]api.Entry{e}, numbered("z", 30)...), append(filled(t, 256, put("a", 1, "")), e)} {
			list = sorted(list)
			wantForm(t, "an entry with "+what, tableByWords(list))
		}
	}
	// What may just be.
	for _, e := range []api.Entry{put("k"+letters(63), 1, "v"), put("k", 1, letters(512)), put("k", top, "v"), gone("k", top), put("k"+noughts(63), 1, letters(512))} {
		wantOpen(t, tableByWords([]api.Entry{e}), []api.Entry{e})
	}
}

// Entries that do not rise, or stand twice, within a block and from block to block.
func TestEntriesThatDoNotRise(t *testing.T) {
	long := letters(300)
	for what, entries := range map[string][]api.Entry{
		"alike":                      {put("a", 5, "x"), put("a", 5, "x")},
		"alike, with other values":   {put("a", 5, "x"), put("a", 5, "y")},
		"alike, one gone":            {put("a", 5, "x"), gone("a", 5)},
		"rising numbers":             {put("a", 5, "x"), put("a", 6, "x")},
		"falling keys":               {put("b", 5, "x"), put("a", 6, "x")},
		"falling keys and numbers":   {put("b", 5, "x"), put("a", 4, "x")},
		"a key and its beginning":    {put("ab", 5, "x"), put("a", 4, "x")},
		"blocks that are alike":      {put("a", 5, long), put("a", 5, long)},
		"blocks of rising numbers":   {put("a", 5, long), put("a", 6, long)},
		"blocks of falling keys":     {put("b", 5, long), put("a", 6, long)},
		"a block, and an end alike":  {put("a", 5, long), put("a", 5, "x")},
		"a block, and an end ahead":  {put("b", 5, long), put("a", 5, "x")},
		"the first one once more":    {put("a", 5, "x"), put("b", 5, "x"), put("a", 5, "x")},
		"the first once more, long":  {put("a", 5, long), put("b", 5, long), put("a", 5, long)},
		"one ahead of a block's end": {put("a", 5, "x"), put("c", 5, long), put("b", 5, "x")},
		"bytes 0 and a longer one":   {put("a\x00", 5, long), put("a", 5, "x")},
	} {
		wantForm(t, "entries that do not rise: "+what, tableByWords(entries))
		blocks, _ := cutByWords(entries)
		wantForm(t, "entries that do not rise: "+what, blocked(blocks, keysOf(sorted(entries))))
	}
}

// smallTexts: texts of up to so many bytes of an alphabet.
func smallTexts(most int, alphabet string) []string {
	texts := []string{""}
	last := texts
	for range most {
		var longer []string
		for _, s := range last {
			for i := range len(alphabet) {
				longer = append(longer, s+alphabet[i:i+1])
			}
		}
		texts = append(texts, longer...)
		last = longer
	}
	return texts
}

// Internal keys that are none, and some that are, with what may stand behind them.
func TestInternalKeysThatAreNone(t *testing.T) {
	opened := 0
	for _, begin := range smallTexts(6, "\x00\x01\x02a\xff") {
		p := pair{begin + "\xff\xff\xff\xff\xff\xff\xff\xfe", "\x00v"}
		if wantAsWords(t, "another internal key", blocked([][]pair{{p}}, []string{entryByWords(p).Key})) {
			opened++
		}
	}
	if opened < 50 {
		t.Errorf("%d internal keys are some's; want more", opened)
	}
	for what, key := range map[string]string{
		"nothing":           "",
		"a number":          "\x01\x05" + internalByWords("", 1)[3:],
		"a number's parts":  "\x01\x05" + internalByWords("a", 1),
		"a number behind":   okeyByWords("a") + "\x01\x05" + internalByWords("", 1)[3:],
		"two texts":         okeyByWords("a") + internalByWords("b", 1),
		"seven bytes":       internalByWords("a", 1)[:11],
		"nine bytes":        internalByWords("a", 1) + "\x00",
		"no number":         okeyByWords("a"),
		"a number alone":    internalByWords("a", 1)[4:],
		"a text that opens": "\x02a" + internalByWords("", 1)[3:],
		"another mark":      "\x03a\x00\x01" + internalByWords("", 1)[3:],
		"the key itself":    "a",
		"a short one":       "\x02\x00\x01",
		"an end in it":      "\x02a\x00\x02b\x00\x01" + internalByWords("", 1)[3:],
	} {
		for _, value := range []string{"\x00v", "\x01", "\x00"} {
			for _, keys := range [][]string{{"a"}, {""}, nil, {entryByWords(pair{key, value}).Key}} {
				wantNotAsForged(t, "an internal key with "+what, blocked([][]pair{{{key, value}}}, keys))
			}
		}
	}
}

// Values begin with a byte 0, or are a byte 1.
func TestValuesThatAreNone(t *testing.T) {
	opened := 0
	for _, value := range append(smallTexts(3, "\x00\x01\x02a\xff"), "\x00"+letters(512), "\x00"+letters(513), "\x01"+letters(512), letters(512), letters(513)) {
		for _, blocks := range [][][]pair{{{{internalByWords("a", 1), value}}}, {{pairByWords(put("a", 2, "")), {internalByWords("a", 1), value}}}} {
			s := blocked(blocks, []string{"a"})
			want := value == "\x01" || value != "" && value[0] == 0 && len(value) <= 513
			if got := wantAsWords(t, "another value", s); got != want {
				t.Errorf("a value %x (%d bytes): %v; want %v", head(value), len(value), got, want)
			} else if got {
				opened++
			}
		}
	}
	if opened < 50 {
		t.Errorf("%d values are some's; want more", opened)
	}
	for b := 2; b < 256; b++ {
		wantForm(t, "another byte ahead of a value", blocked([][]pair{{{internalByWords("a", 1), string([]byte{byte(b)})}}}, []string{"a"}))
		wantForm(t, "another byte ahead of a value", blocked([][]pair{{{internalByWords("a", 1), string([]byte{byte(b)}) + "v"}}}, []string{"a"}))
	}
}

func TestTablesWithoutEntries(t *testing.T) {
	for _, data := range []string{"", four(0), four(0) + four(0)} {
		for _, filter := range []string{"", noughts(8), filterByWords([]string{"a"})} {
			for _, index := range [][]pair{nil, {{"", "\x00\x04"}}, {{internalByWords("a", 1), "\x00\x04"}}, {{"", "\x00\x00"}}} {
				for count := range 3 {
					wantNotAsForged(t, "no entries", assembled(data, filter, blockByWords(index), count))
				}
			}
			wantNotAsForged(t, "no entries, no index", assembled(data, filter, "", 0))
		}
	}
}

// Indices that tell of one block many times do not make work without an end.
func TestManyTimesTheSameBlock(t *testing.T) {
	data := blockByWords([]pair{pairByWords(put("a", 1, letters(512)))})
	data = strings.Repeat(data, 400)
	var index []pair
	for i := range 20000 {
		index = append(index, pair{four(i), "\x00" + numberRow(uint64(len(data)))})
	}
	wantForm(t, "an index of one place", assembled(data, noughts(8), blockByWords(index), 1))
	for i := range index {
		index[i].value = "\x00\x00"
	}
	wantForm(t, "an index of nothing", assembled(data, noughts(8), blockByWords(index), 1))
}

// P12.4

// wantThereAndBack: what a builder told is opened, and what was opened is built again.
func wantThereAndBack(t *testing.T, entries []api.Entry) *table.Table {
	t.Helper()
	s := build(t, entries)
	x := wantOpen(t, s, entries)
	if x == nil {
		return nil
	}
	for _, e := range entries {
		if got, ok := x.Get(e.Key, e.Seq); got != e || !ok {
			t.Errorf("Get(%q, %d): %s, %v; want %s", head(e.Key), e.Seq, shown(got), ok, shown(e))
		}
	}
	if got := build(t, x.All()); got != s {
		t.Errorf("built again: %x (%d bytes); ahead %x (%d bytes)", head(got), len(got), head(s), len(s))
	}
	return x
}

func TestThereAndBack(t *testing.T) {
	for _, entries := range slices.Concat(few(), edgeBlocks(t), large()) {
		wantThereAndBack(t, entries)
	}
}

func TestThereAndBackOfAllLists(t *testing.T) {
	var all []api.Entry
	for i, e := range crossed([]string{"\x00", "a", "a\x00", "ab"}, []uint64{top, 7, 6}) {
		if i%2 == 0 && !e.Gone {
			e.Value = letters(90)
		}
		all = append(all, e)
	}
	for set := 1; set < 1<<len(all); set++ {
		var entries []api.Entry
		for i, e := range all {
			if set>>i&1 == 1 {
				entries = append(entries, e)
			}
		}
		x := wantThereAndBack(t, entries)
		for _, key := range []string{"\x00", "a", "a\x00", "aa", "ab"} {
			for _, at := range []uint64{0, 5, 6, 7, 8, top, math.MaxUint64} {
				wantGet(t, x, entries, key, at)
			}
		}
	}
}

func TestThereAndBackOfManyLists(t *testing.T) {
	maker := numberMaker(3)
	for range 150 {
		entries := chance(&maker)
		wantTable(t, wantThereAndBack(t, entries), entries)
	}
}

// Places of three bytes.
func TestALongTable(t *testing.T) {
	var entries []api.Entry
	for i := range 3000 {
		entries = append(entries, put(four(i)+letters(i%61), uint64(1+i*7919%3000), letters(i*31%513)))
	}
	s := build(t, entries)
	if s != tableByWords(entries) || len(s) < 1<<19 {
		t.Errorf("%d bytes; want those by the words", len(s))
	}
	x := wantOpen(t, s, entries)
	for _, e := range some(entries, 500) {
		for _, at := range []uint64{0, e.Seq - 1, e.Seq, math.MaxUint64} {
			want, ok := api.Entry{}, false
			if at >= e.Seq {
				want, ok = e, true
			}
			if got, found := x.Get(e.Key, at); got != want || found != ok {
				t.Errorf("Get(%q, %d): %s, %v", head(e.Key), at, shown(got), found)
			}
		}
	}
	for _, i := range []int{0, 1, 500, 2999} {
		if got := x.Range(entries[i].Key, ""); !slices.Equal(got, entries[i:]) {
			t.Errorf("Range from the %d-th key: %d entries", i, len(got))
		}
		if got := x.Range("", entries[i].Key); !slices.Equal(got, entries[:i]) {
			t.Errorf("Range to the %d-th key: %d entries", i, len(got))
		}
	}
}

// P12.5

func TestWhatIsDeniedIsNotThere(t *testing.T) {
	maker := numberMaker(4)
	denied := 0
	for range 200 {
		entries := chance(&maker)
		x := wantThereAndBack(t, entries)
		for _, e := range entries {
			wantMay(t, x, e.Key, true)
		}
		for range 100 {
			key := maker.text(maker.below(5), "ab\x00\x01\xff")
			if x.May(key) {
				continue
			}
			denied++
			if got, ok := x.Get(key, math.MaxUint64); ok || slices.Contains(keysOf(entries), key) || len(x.Range(key, key+"\x00")) != 0 && key != "" {
				t.Errorf("%q is denied, and there: %s", key, shown(got))
			}
		}
	}
	if denied < 1000 {
		t.Errorf("%d keys were denied; want more", denied)
	}
}

// R3, R4

// lies: does the memory of a text lie in that of another one?
func lies(text, in string) bool {
	if text == "" || in == "" {
		return false
	}
	begin, at := uintptr(unsafe.Pointer(unsafe.StringData(in))), uintptr(unsafe.Pointer(unsafe.StringData(text)))
	return begin <= at && at < begin+uintptr(len(in))
}

// spoilable: a text whose bytes are changed by what is told with it.
func spoilable(text string) (string, func()) {
	bytes := []byte(text)
	spoil := func() {
		for i := range bytes {
			bytes[i] = '#'
		}
	}
	return unsafe.String(unsafe.SliceData(bytes), len(bytes)), spoil
}

func TestAskedAgain(t *testing.T) {
	for _, entries := range few() {
		s := tableByWords(entries)
		x, y := wantOpen(t, s, entries), wantOpen(t, s, entries)
		for range 2 {
			wantTable(t, x, entries)
			if !slices.Equal(x.All(), y.All()) {
				t.Errorf("one table twice has other entries")
			}
		}
		wantTable(t, y, entries)
	}
}

// texts: those of some entries that are not empty.
func texts(entries ...api.Entry) []string {
	var out []string
	for _, e := range entries {
		for _, s := range []string{e.Key, e.Value} {
			if s != "" {
				out = append(out, s)
			}
		}
	}
	return out
}

func TestWhatIsToldIsMemoryOfItsOwn(t *testing.T) {
	entries := numbered("long key ", 40)
	s, spoil := spoilable(tableByWords(entries))
	x, errno := table.Open(s)
	if errno != api.OK {
		t.Fatalf("Open: %d", errno)
	}
	var told []string
	for range 2 {
		told = append(told, texts(x.All()...)...)
		told = append(told, texts(x.Range("", "")...)...)
		for _, e := range entries[:10] {
			got, _ := x.Get(e.Key, e.Seq)
			told = append(told, texts(got)...)
		}
	}
	for i, one := range told {
		if lies(one, s) {
			t.Fatalf("%q lies in the bytes that were opened", one)
		}
		for _, other := range told[:i] {
			if lies(one, other) || lies(other, one) {
				t.Fatalf("%q and %q lie in one memory", one, other)
			}
		}
	}
	for _, list := range [][]api.Entry{x.All(), x.Range("", "")} {
		for i := range list {
			list[i] = api.Entry{}
		}
	}
	spoil()
	if got := x.All(); !slices.Equal(got, entries) {
		t.Errorf("All has changed")
	}
	wantTable(t, x, entries)
}

func TestWhatIsAddedIsNotKept(t *testing.T) {
	for _, entries := range [][]api.Entry{chapters(), numbered("key", 40), versions("key", 40), filled(t, 256)} {
		b := table.New(1, 0)
		pieces, rest := piecesByWords(entries)
		for i, e := range entries {
			key, spoilKey := spoilable(e.Key)
			value, spoilValue := spoilable(e.Value)
			got, errno := b.Add(api.Entry{Key: key, Value: value, Seq: e.Seq, Gone: e.Gone})
			if got != pieces[i] || errno != api.OK {
				t.Errorf("Add of %s: %x, %d", shown(e), head(got), errno)
			}
			if key != e.Key || value != e.Value {
				t.Errorf("Add changes what is handed in to %q, %q", key, value)
			}
			spoilKey()
			spoilValue()
			wantNoAdd(t, b, e, api.ErrArg)
			if got != "" {
				// What was told is the caller's.
				spoilBytes(got)
			}
		}
		known := knownByWords(1, 0, entries)
		wantFinish(t, b, rest, known)
	}
}

// spoilBytes: the memory of a text that a builder told is changed; it was made while the program ran.
func spoilBytes(s string) {
	for i := range unsafe.Slice(unsafe.StringData(s), len(s)) {
		unsafe.Slice(unsafe.StringData(s), len(s))[i] = '#'
	}
}

func TestWhatFinishTellsIsMemoryOfItsOwn(t *testing.T) {
	for _, entries := range [][]api.Entry{{put("a long key", 1, "v")}, versions("a long key", 40), numbered("a long key ", 40)} {
		b := table.New(1, 0)
		var told []string
		for _, e := range entries {
			piece, _ := b.Add(e)
			told = append(told, piece)
		}
		rest, known, _ := b.Finish()
		told = append(told, rest, known.First, known.Last)
		for _, e := range entries {
			told = append(told, texts(e)...)
		}
		for i, one := range told[:len(told)-len(texts(entries...))] {
			for j, other := range told {
				if i != j && (lies(one, other) || lies(other, one)) {
					t.Fatalf("%q and %q lie in one memory", head(one), head(other))
				}
			}
		}
	}
}

func TestWhatIsHandedInStays(t *testing.T) {
	for _, entries := range few() {
		want := tableByWords(entries)
		s, _ := spoilable(want)
		x, _ := table.Open(s)
		for _, e := range entries {
			key, _ := spoilable(e.Key)
			x.Get(key, e.Seq)
			x.Range(key, key)
			x.May(key)
			table.Internal(key, e.Seq)
			if key != e.Key {
				t.Errorf("the key is %q; ahead %q", key, e.Key)
			}
		}
		table.Open(s[:len(s)-1])
		if s != want {
			t.Errorf("the bytes are %x; ahead %x", head(s), head(want))
		}
	}
}

func TestInternalIsMemoryOfItsOwn(t *testing.T) {
	key, spoil := spoilable("a long key of many bytes")
	one, two := table.Internal(key, 7), table.Internal(key, 7)
	if lies(one, key) || lies(one, two) || lies(two, one) {
		t.Errorf("internal keys lie in one memory")
	}
	spoil()
	if want := internalByWords("a long key of many bytes", 7); one != want {
		t.Errorf("Internal: %q; want %q", one, want)
	}
}

// Tables know nothing of one another, nor of the builder that made their bytes.
func TestTablesBesideOneAnother(t *testing.T) {
	one, two := numbered("a", 30), crossed(edgeKeys(), []uint64{9, 1})
	x, y := wantOpen(t, build(t, one), one), wantOpen(t, build(t, two), two)
	build(t, one)
	wantTable(t, x, one)
	wantTable(t, y, two)
}
