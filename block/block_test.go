package block_test

import (
	"encoding/hex"
	"math"
	"slices"
	"strconv"
	"strings"
	"testing"
	"unsafe"

	"copyhold/api"
	"copyhold/block"
)

// numberMaker: numbers that look like chance, the same ones in each run.
type numberMaker uint64

func (m *numberMaker) next() uint32 {
	*m = *m*6364136223846793005 + 1442695040888963407
	return uint32(*m >> 32)
}

// below: a number from 0 on, below n.
func (m *numberMaker) below(n int) int { return int(m.next()) % n }

// text: so many bytes out of some.
func (m *numberMaker) text(size int, alphabet string) string {
	b := make([]byte, size)
	for i := range b {
		b[i] = alphabet[m.below(len(alphabet))]
	}
	return string(b)
}

// pair: an entry, as it is handed in.
type pair struct{ key, value string }

// letters: a text of so many bytes, no two of which side by side are alike.
func letters(size int) string {
	b := make([]byte, size)
	for i := range b {
		b[i] = byte('a' + i%26)
	}
	return string(b)
}

// noughts: so many bytes 0.
func noughts(size int) string { return strings.Repeat("\x00", size) }

// head: so much of a text as a failure needs to show.
func head(s string) string { return s[:min(len(s), 60)] }

// fromHex: the bytes that some digits tell, blanks left out.
func fromHex(t *testing.T, digits string) string {
	t.Helper()
	row, err := hex.DecodeString(strings.ReplaceAll(digits, " ", ""))
	if err != nil {
		t.Fatal(err)
	}
	return string(row)
}

// What a block's bytes are, by the words of chapters 1 and 11.

// numberRow: a number's bytes.
func numberRow(n uint64) string {
	if n < 248 {
		return string([]byte{byte(n)})
	}
	var low []byte
	for ; n > 0; n >>= 8 {
		low = append(low, byte(n))
	}
	slices.Reverse(low)
	return string([]byte{byte(247 + len(low))}) + string(low)
}

func textRow(s string) string { return numberRow(uint64(len(s))) + s }

// four: a number in four bytes.
func four(n int) string {
	return string([]byte{byte(n >> 24), byte(n >> 16), byte(n >> 8), byte(n)})
}

// sharedByWords: with how many bytes both begin.
func sharedByWords(a, b string) int {
	n := 0
	for n < len(a) && strings.HasPrefix(b, a[:n+1]) {
		n++
	}
	return n
}

// rowByWords: the i-th entry's bytes.
func rowByWords(pairs []pair, i int) string {
	shared := 0
	if i%4 != 0 {
		shared = sharedByWords(pairs[i-1].key, pairs[i].key)
	}
	return numberRow(uint64(shared)) + textRow(pairs[i].key[shared:]) + textRow(pairs[i].value)
}

// bytesByWords: a block's bytes.
func bytesByWords(pairs []pair) string {
	var rows, foot strings.Builder
	for i := range pairs {
		if i%4 == 0 {
			foot.WriteString(four(rows.Len()))
		}
		rows.WriteString(rowByWords(pairs, i))
	}
	return rows.String() + foot.String() + four(len(pairs))
}

// mayBe: are these a block's entries?
func mayBe(pairs []pair) bool {
	for i, p := range pairs {
		if len(p.key) > 1024 || len(p.value) > 1024 || i > 0 && pairs[i-1].key >= p.key {
			return false
		}
	}
	return true
}

// cutter: bytes that are read one behind the other; it is spoilt as soon as they are not what is asked for.
type cutter struct {
	rest   string
	spoilt bool
}

func (c *cutter) take(size uint64) string {
	if c.spoilt || size > uint64(len(c.rest)) {
		c.spoilt = true
		return ""
	}
	out := c.rest[:size]
	c.rest = c.rest[size:]
	return out
}

func (c *cutter) number() uint64 {
	first := c.take(1)
	if c.spoilt {
		return 0
	}
	if first[0] < 248 {
		return uint64(first[0])
	}
	var n uint64
	for _, b := range []byte(c.take(uint64(first[0]) - 247)) {
		n = n*256 + uint64(b)
	}
	return n
}

// pairsByWords: the entries of a block's bytes, and whether they are some's.
func pairsByWords(s string) ([]pair, bool) {
	if len(s) < 4 {
		return nil, false
	}
	end := []byte(s[len(s)-4:])
	count := int(end[0])<<24 + int(end[1])<<16 + int(end[2])<<8 + int(end[3])
	c := cutter{rest: s}
	var pairs []pair
	for i := range count {
		ahead := ""
		if i > 0 {
			ahead = pairs[i-1].key
		}
		shared := min(c.number(), uint64(len(ahead)))
		key := ahead[:shared] + c.take(c.number())
		value := c.take(c.number())
		if c.spoilt {
			return nil, false
		}
		pairs = append(pairs, pair{key, value})
	}
	if !mayBe(pairs) || bytesByWords(pairs) != s {
		return nil, false
	}
	return pairs, true
}

// What is handed in.

// numbered: so many entries, whose keys begin alike.
func numbered(begin string, count int) []pair {
	var pairs []pair
	for i := range count {
		n := strconv.Itoa(1000000 + 2*i)
		pairs = append(pairs, pair{begin + n[1:], letters(i % 7)})
	}
	return pairs
}

// keyed: entries with these keys, sorted, and values of many lengths.
func keyed(keys ...string) []pair {
	keys = slices.Clone(keys)
	slices.Sort(keys)
	var pairs []pair
	for i, key := range slices.Compact(keys) {
		pairs = append(pairs, pair{key, letters(i * 5 % 13)})
	}
	return pairs
}

// lengths: on both sides of each edge, up to the greatest.
func lengths() []int {
	return []int{0, 1, 2, 3, 127, 128, 246, 247, 248, 249, 254, 255, 256, 257, 511, 512, 1022, 1023, 1024}
}

// tooLong: lengths beyond the greatest.
func tooLong() []int { return []int{1025, 1026, 2048, 65536} }

// growing: keys that are beginnings of one another, of all lengths.
func growing(of string) []pair {
	var keys []string
	for _, size := range lengths() {
		keys = append(keys, strings.Repeat(of, size))
	}
	return keyed(keys...)
}

// lastByte: long keys that differ in their last byte.
func lastByte(size int) []pair {
	var keys []string
	for _, b := range []byte{0, 1, 127, 128, 247, 248, 254, 255} {
		keys = append(keys, letters(size)+string([]byte{b}))
	}
	return keyed(keys...)
}

// edgeKeys: the empty one, bytes 0, 1, 127, 128, 255, beginnings of one another, such as have nothing, one byte, all but one in common.
func edgeKeys() []string {
	return []string{"", "\x00", "\x00\x00", "\x00\x01", "\x01", "\x01\x00", "\x7f", "\x7f\xff", "\x80", "\x80\x00", "\xff", "\xff\x00", "\xff\xff", "a", "aa", "aaa", "aab", "aabb", "aac", "ab", "abc", "abcd", "abd", "b", "ba", "é"}
}

// few: short blocks, on the edges.
func few() [][]pair {
	blocks := [][]pair{nil}
	for _, count := range []int{1, 2, 3, 4, 5, 6, 7, 8, 9, 12, 13} {
		blocks = append(blocks, numbered("k", count), keyed(edgeKeys()[:count]...), keyed(edgeKeys()[count:2*count]...))
	}
	return append(blocks,
		[]pair{{"ab", "1"}, {"ac", ""}},
		[]pair{{"", ""}}, []pair{{"", "v"}}, []pair{{"", ""}, {"\x00", ""}},
		[]pair{{"a", "x"}, {"b", "y"}, {"c", "z"}, {"d", "x"}, {"e", "y"}, {"f", "z"}},
		[]pair{{"a", ""}, {"ab", ""}, {"abc", ""}, {"abcd", ""}, {"abcde", ""}, {"abcdef", ""}},
		[]pair{{"abc", "\x00\xff"}, {"abd", "\xff"}, {"ac", "\x00"}, {"b", "\x00\x00\x00\x01"}, {"ba", "\x00\x00\x00\x00"}},
		[]pair{{"\x00\x00", noughts(4)}, {"\x00\x00\x00", noughts(8)}},
		keyed(edgeKeys()...),
	)
}

// large: blocks with long keys and values, and of many entries.
func large() [][]pair {
	blocks := [][]pair{growing("a"), growing("\x00"), growing("\xff"), numbered("", 100), numbered(letters(300), 40), numbered("key-", 1000)}
	for _, size := range []int{0, 1, 245, 246, 247, 248, 254, 255, 256, 1022, 1023} {
		blocks = append(blocks, lastByte(size))
	}
	for _, key := range lengths() {
		for _, value := range lengths() {
			blocks = append(blocks, []pair{{letters(key), letters(value)}})
		}
	}
	return blocks
}

// around: each of the keys, texts just below and just above it, and such as are below and above all; rising.
func around(pairs []pair) []string {
	out := []string{"", "\x00", "m", strings.Repeat("\xff", 1025), letters(1025)}
	for _, p := range pairs {
		out = append(out, p.key, p.key+"\x00", p.key+"\x01", p.key+"\xff")
		if last := len(p.key) - 1; last >= 0 {
			out = append(out, p.key[:last], p.key[:last/2], p.key[:last]+"\x00", p.key[:last]+"\xff")
			if p.key[last] > 0 {
				out = append(out, p.key[:last]+string([]byte{p.key[last] - 1})+"\xff")
			}
		}
	}
	slices.Sort(out)
	return slices.Compact(out)
}

// What is asked.

func wantAdd(t *testing.T, b *block.Builder, p pair, want api.Errno) {
	t.Helper()
	if got := b.Add(p.key, p.value); got != want {
		t.Errorf("Add(%q of %d bytes, %d bytes): %d; want %d", head(p.key), len(p.key), len(p.value), got, want)
	}
}

// wantHas: a builder has these entries, as far as it tells without an end.
func wantHas(t *testing.T, b *block.Builder, pairs []pair) {
	t.Helper()
	if got := b.Count(); got != len(pairs) {
		t.Errorf("Count: %d; want %d", got, len(pairs))
	}
	if got, want := b.Size(), len(bytesByWords(pairs)); got != want {
		t.Errorf("Size with %d entries: %d; want %d", len(pairs), got, want)
	}
}

// wantFinish: a builder has these entries, and none behind Finish.
func wantFinish(t *testing.T, b *block.Builder, pairs []pair) {
	t.Helper()
	wantHas(t, b, pairs)
	want := bytesByWords(pairs)
	if got := b.Finish(); got != want {
		t.Errorf("Finish of %d entries: %x (%d bytes); want %x (%d bytes)", len(pairs), head(got), len(got), head(want), len(want))
	}
	wantHas(t, b, nil)
}

// add: entries that are all taken.
func add(t *testing.T, b *block.Builder, pairs []pair) {
	t.Helper()
	for _, p := range pairs {
		wantAdd(t, b, p, api.OK)
	}
}

// wantForm: some bytes are no block's.
func wantForm(t *testing.T, what, s string) {
	t.Helper()
	if b, errno := block.Open(s); b != nil || errno != api.ErrForm {
		t.Errorf("Open of %s, %x (%d bytes): a block: %v, %d; want none, ErrForm", what, head(s), len(s), b != nil, errno)
	}
}

// wantOpen: some bytes are the block's of these entries.
func wantOpen(t *testing.T, s string, pairs []pair) *block.Block {
	t.Helper()
	b, errno := block.Open(s)
	if b == nil || errno != api.OK {
		t.Errorf("Open of %x (%d bytes): a block: %v, %d; want one of %d entries, OK", head(s), len(s), b != nil, errno, len(pairs))
		return nil
	}
	if got := b.Len(); got != len(pairs) {
		t.Errorf("Len: %d; want %d", got, len(pairs))
	}
	for i, p := range pairs {
		wantAt(t, b, i, p)
	}
	for _, i := range []int{-1, -2, -4, -1 << 32, math.MinInt + 1, math.MinInt, len(pairs), len(pairs) + 1, len(pairs) + 4, 1 << 32, math.MaxInt - 1, math.MaxInt} {
		wantNotAt(t, b, i)
	}
	return b
}

func wantAt(t *testing.T, b *block.Block, i int, want pair) {
	t.Helper()
	if key, value, ok := b.At(i); key != want.key || value != want.value || !ok {
		t.Errorf("At(%d): %q (%d bytes), %q (%d bytes), %v; want %q (%d bytes), %q (%d bytes), true", i, head(key), len(key), head(value), len(value), ok, head(want.key), len(want.key), head(want.value), len(want.value))
	}
}

func wantNotAt(t *testing.T, b *block.Block, i int) {
	t.Helper()
	if key, value, ok := b.At(i); key != "" || value != "" || ok {
		t.Errorf("At(%d): %q, %q, %v; want no texts, false", i, head(key), head(value), ok)
	}
}

func wantSeek(t *testing.T, b *block.Block, key string, want int) {
	t.Helper()
	if got := b.Seek(key); got != want {
		t.Errorf("Seek(%q of %d bytes) in %d entries: %d; want %d", head(key), len(key), b.Len(), got, want)
	}
}

// wantAsWords: Open of some bytes is what the words say.
func wantAsWords(t *testing.T, what, s string) bool {
	t.Helper()
	pairs, ok := pairsByWords(s)
	if !ok {
		wantForm(t, what, s)
		return false
	}
	wantOpen(t, s, pairs)
	return true
}

// P11.1

func TestTheChaptersExample(t *testing.T) {
	b := &block.Builder{}
	wantAdd(t, b, pair{"ab", "1"}, api.OK)
	wantAdd(t, b, pair{"ac", ""}, api.OK)
	wantAdd(t, b, pair{"ab", "2"}, api.ErrArg)
	wantAdd(t, b, pair{letters(1025), ""}, api.ErrLong)
	if b.Count() != 2 || b.Size() != 18 {
		t.Errorf("Count %d, Size %d; want 2, 18", b.Count(), b.Size())
	}
	row := fromHex(t, "00 02 61 62 01 31 01 01 63 00 00000000 00000002")
	if got := b.Finish(); got != row {
		t.Errorf("Finish: %x; want %x", got, row)
	}
	if got := b.Finish(); got != fromHex(t, "00000000") {
		t.Errorf("Finish of no entries: %x", got)
	}
	x := wantOpen(t, row, []pair{{"ab", "1"}, {"ac", ""}})
	wantSeek(t, x, "ab", 0)
	wantSeek(t, x, "abc", 1)
	wantSeek(t, x, "b", 2)
	wantOpen(t, fromHex(t, "00000000"), nil)
	wantForm(t, "no bytes", "")
}

func TestBlocksWrittenOut(t *testing.T) {
	for _, x := range []struct {
		digits string
		pairs  []pair
	}{
		{"00 00 00 00000000 00000001", []pair{{"", ""}}},
		{"00 00 02 7879 00000000 00000001", []pair{{"", "xy"}}},
		{"00 01 61 00 01 01 00 01 31 00000000 00000002", []pair{{"a", ""}, {"a\x00", "1"}}},
		{"00 00 00 00 01 00 00 01 01 00 00 02 01 ff 00 00000000 00000004", []pair{{"", ""}, {"\x00", ""}, {"\x00\x00", ""}, {"\x00\x00\xff", ""}}},
		{"00 01 61 00 00 01 62 00 00 01 63 00 00 01 64 00 00 01 65 00 00000000 00000010 00000005", []pair{{"a", ""}, {"b", ""}, {"c", ""}, {"d", ""}, {"e", ""}}},
		{"00 01 61 00 01 01 61 00 02 01 61 00 03 01 61 00 00 05 6161616161 00 05 01 61 00 06 01 61 00 07 01 61 00 00 09 616161616161616161 00 00000000 00000010 00000024 00000009",
			[]pair{{"a", ""}, {"aa", ""}, {"aaa", ""}, {"aaaa", ""}, {"aaaaa", ""}, {"aaaaaa", ""}, {"aaaaaaa", ""}, {"aaaaaaaa", ""}, {"aaaaaaaaa", ""}}},
	} {
		row := fromHex(t, x.digits)
		b := &block.Builder{}
		add(t, b, x.pairs)
		if got := b.Finish(); got != row {
			t.Errorf("Finish: %x; want %x", got, row)
		}
		wantOpen(t, row, x.pairs)
	}
}

func TestLongTextsWrittenOut(t *testing.T) {
	for size, digits := range map[int]string{0: "00", 1: "01", 247: "f7", 248: "f8f8", 255: "f8ff", 256: "f90100", 1023: "f903ff", 1024: "f90400"} {
		key := letters(size)
		number := fromHex(t, digits)
		end := "\x00\x00\x00\x00\x00\x00\x00\x01"
		for value, row := range map[string]string{"": "\x00" + number + key + "\x00" + end, key: "\x00" + number + key + number + key + end} {
			b := &block.Builder{}
			wantAdd(t, b, pair{key, value}, api.OK)
			if got := b.Finish(); got != row {
				t.Errorf("Finish of a key of %d bytes: %x; want %x", size, head(got), head(row))
			}
			wantOpen(t, row, []pair{{key, value}})
		}
		if size == 1024 {
			continue
		}
		// The same number as what two keys share.
		pairs := []pair{{key + "a", ""}, {key + "b", ""}}
		if row := bytesByWords(pairs[:1]); bytesByWords(pairs) != row[:len(row)-8]+number+"\x01b\x00\x00\x00\x00\x00\x00\x00\x00\x02" {
			t.Errorf("keys that share %d bytes: %x", size, bytesByWords(pairs))
		}
		b := &block.Builder{}
		add(t, b, pairs)
		wantFinish(t, b, pairs)
	}
}

func TestBuildersWithoutEntries(t *testing.T) {
	var zero block.Builder
	for _, b := range []*block.Builder{&zero, {}, new(block.Builder)} {
		wantHas(t, b, nil)
		for range 3 {
			if b.Count() != 0 || b.Size() != 4 {
				t.Errorf("Count %d, Size %d; want 0, 4", b.Count(), b.Size())
			}
			if got := b.Finish(); got != "\x00\x00\x00\x00" {
				t.Errorf("Finish: %x; want 00000000", got)
			}
		}
	}
}

func TestNilBuilders(t *testing.T) {
	var b *block.Builder
	for range 2 {
		for _, key := range []string{"", "a", letters(1024), letters(1025)} {
			for _, value := range []string{"", "v", letters(1024), letters(1025)} {
				wantAdd(t, b, pair{key, value}, api.ErrNil)
			}
		}
		if b.Count() != 0 || b.Size() != 0 || b.Finish() != "" {
			t.Errorf("a nil builder: Count %d, Size %d, Finish %x; want 0, 0, no bytes", b.Count(), b.Size(), b.Finish())
		}
	}
}

func TestBlocksByTheWords(t *testing.T) {
	for _, pairs := range append(few(), large()...) {
		b := &block.Builder{}
		add(t, b, pairs)
		wantFinish(t, b, pairs)
	}
}

func TestSizesAheadOfAndBehindEachAdd(t *testing.T) {
	for _, pairs := range append(few(), growing("a"), lastByte(247), lastByte(1023), numbered(letters(255), 30)) {
		b := &block.Builder{}
		for i, p := range pairs {
			wantHas(t, b, pairs[:i])
			wantAdd(t, b, p, api.OK)
			wantHas(t, b, pairs[:i+1])
			// What was added up to here, finished by itself.
			other := &block.Builder{}
			add(t, other, pairs[:i+1])
			if got, want := b.Size(), len(other.Finish()); got != want {
				t.Errorf("Size with %d entries: %d; want %d", i+1, got, want)
			}
		}
		wantFinish(t, b, pairs)
	}
}

func TestLengthsOfKeysAndValues(t *testing.T) {
	for _, key := range append(lengths(), tooLong()...) {
		for _, value := range append(lengths(), tooLong()...) {
			p := pair{letters(key), letters(value)}
			for _, ahead := range [][]pair{nil, {{"", "v"}}, {{"", "v"}, {"Z", ""}}, numbered("K", 3), numbered("K", 4)} {
				b := &block.Builder{}
				add(t, b, ahead)
				want, has := api.OK, append(slices.Clone(ahead), p)
				switch {
				case key > 1024 || value > 1024:
					want, has = api.ErrLong, ahead
				case key == 0 && len(ahead) > 0:
					want, has = api.ErrArg, ahead
				}
				wantAdd(t, b, p, want)
				wantFinish(t, b, has)
			}
		}
	}
}

// What is too long is told ahead of what is not above.
func TestTooLongBesideAKeyThatIsNotAbove(t *testing.T) {
	for _, ahead := range [][]pair{{{"m", "1"}}, {{"k", ""}, {"m", "1"}}, {{"a", ""}, {"b", ""}, {"c", ""}, {"m", "1"}}, {{"a", ""}, {"b", ""}, {"c", ""}, {"d", ""}, {"m", ""}}} {
		b := &block.Builder{}
		add(t, b, ahead)
		for _, size := range tooLong() {
			long := letters(size)
			for _, key := range []string{long, "z" + long, "m" + long, "\x00" + long, "\xff" + long} {
				for _, value := range []string{"", "v", letters(1024), long} {
					wantAdd(t, b, pair{key, value}, api.ErrLong)
				}
			}
			for _, key := range []string{"", "\x00", "a", "m", "ma", "z"} {
				wantAdd(t, b, pair{key, long}, api.ErrLong)
			}
		}
		for _, key := range []string{"", "\x00", "a", "lz", letters(1024), "m"} {
			wantAdd(t, b, pair{key, letters(1024)}, api.ErrArg)
		}
		wantHas(t, b, ahead)
		wantAdd(t, b, pair{"m\x00", letters(1024)}, api.OK)
		wantFinish(t, b, append(slices.Clone(ahead), pair{"m\x00", letters(1024)}))
	}
}

// notAbove: keys that are alike to one or below it.
func notAbove(key string) []string {
	keys := []string{key, ""}
	for i := range len(key) {
		keys = append(keys, key[:i])
		if key[i] > 0 {
			keys = append(keys, key[:i]+string([]byte{key[i] - 1}), key[:i]+string([]byte{key[i] - 1})+"\xff\xff\xff", key[:i]+"\x00")
		}
	}
	return keys
}

// Keys that do not rise are not taken, wherever they come, and leave no trace.
func TestKeysThatDoNotRise(t *testing.T) {
	for _, pairs := range few() {
		b := &block.Builder{}
		for i, p := range pairs {
			wantAdd(t, b, p, api.OK)
			for _, key := range notAbove(p.key) {
				wantAdd(t, b, pair{key, p.value}, api.ErrArg)
				wantAdd(t, b, pair{key, "other"}, api.ErrArg)
			}
			for _, q := range pairs[:i] {
				wantAdd(t, b, q, api.ErrArg)
			}
			wantAdd(t, b, pair{p.key + letters(1025), ""}, api.ErrLong)
			wantAdd(t, b, pair{p.key + "a", letters(1025)}, api.ErrLong)
			wantHas(t, b, pairs[:i+1])
		}
		wantFinish(t, b, pairs)
	}
}

// All pairs of single bytes, and of bytes behind what is alike: bytes stand as numbers from 0 to 255.
func TestOrderOfBytes(t *testing.T) {
	for i := range 256 * 256 {
		one, other := string([]byte{byte(i / 256)}), string([]byte{byte(i)})
		for _, begin := range []string{"", "ab", "\xff"} {
			b := &block.Builder{}
			pairs := []pair{{begin + one, ""}, {begin + other, ""}}
			wantAdd(t, b, pairs[0], api.OK)
			if i/256 >= i%256 {
				wantAdd(t, b, pairs[1], api.ErrArg)
				pairs = pairs[:1]
			} else {
				wantAdd(t, b, pairs[1], api.OK)
			}
			if got, want := b.Finish(), bytesByWords(pairs); got != want {
				t.Errorf("Finish of %q: %x; want %x", pairs, got, want)
			}
		}
	}
}

// A key that is refused ahead of all others does not bar lesser ones.
func TestRefusedAheadOfAllOthers(t *testing.T) {
	b := &block.Builder{}
	wantAdd(t, b, pair{letters(1025), ""}, api.ErrLong)
	wantAdd(t, b, pair{"z", letters(1025)}, api.ErrLong)
	wantHas(t, b, nil)
	wantAdd(t, b, pair{"", ""}, api.OK)
	wantAdd(t, b, pair{"z", letters(1025)}, api.ErrLong)
	wantAdd(t, b, pair{"", ""}, api.ErrArg)
	wantAdd(t, b, pair{"a", ""}, api.OK)
	wantFinish(t, b, []pair{{"", ""}, {"a", ""}})
}

func TestEachFourthEntrySharesNothing(t *testing.T) {
	for count := range 60 {
		var pairs []pair
		for i := range count {
			pairs = append(pairs, pair{letters(50) + string([]byte{byte(4 * i)}), "v"})
		}
		b := &block.Builder{}
		add(t, b, pairs)
		s := b.Finish()
		// A restart has 55 bytes, an entry behind it shares 50, and has 5.
		restarts := (count + 3) / 4
		if want := 55*restarts + 5*(count-restarts) + 4*restarts + 4; len(s) != want {
			t.Errorf("%d entries: %d bytes; want %d", count, len(s), want)
		}
		for i := range restarts {
			at := i * (55 + 3*5)
			if !strings.HasPrefix(s[at:], "\x00\x33"+letters(50)+string([]byte{byte(16 * i)})+"\x01v") {
				t.Errorf("%d entries: at %d stands %x", count, at, head(s[at:]))
			}
			if foot := s[len(s)-4-4*restarts+4*i:][:4]; foot != four(at) {
				t.Errorf("%d entries: restart %d stands at %x; want %x", count, i, foot, four(at))
			}
		}
		if s[len(s)-4:] != four(count) {
			t.Errorf("%d entries are told as %x", count, s[len(s)-4:])
		}
		wantOpen(t, s, pairs)
	}
}

func TestBuildersUsedAgain(t *testing.T) {
	b := &block.Builder{}
	for range 2 {
		for _, pairs := range append(few(), growing("a"), lastByte(255), nil, numbered("z", 9), numbered("a", 9), numbered("a", 6)) {
			add(t, b, pairs)
			for _, p := range pairs {
				wantAdd(t, b, p, api.ErrArg)
			}
			wantFinish(t, b, pairs)
		}
	}
}

// Two builders at once know nothing of one another.
func TestBuildersBesideOneAnother(t *testing.T) {
	one, two := &block.Builder{}, &block.Builder{}
	a, z := numbered("a", 21), numbered("z", 21)
	for i := range a {
		wantAdd(t, one, z[i], api.OK)
		wantAdd(t, two, a[i], api.OK)
	}
	wantFinish(t, one, z)
	wantFinish(t, two, a)
}

// Places that need two bytes, and three.
func TestPlacesOfManyBytes(t *testing.T) {
	for _, count := range []int{80, 300, 70000} {
		pairs := numbered("key", count)
		if count == 300 {
			for i := range pairs {
				pairs[i].value = letters(1000)
			}
		}
		b := &block.Builder{}
		add(t, b, pairs)
		s := b.Finish()
		if s != bytesByWords(pairs) {
			t.Errorf("Finish of %d entries: %x (%d bytes)", count, head(s), len(s))
		}
		x := wantOpen(t, s, pairs)
		for i, p := range pairs {
			wantSeek(t, x, p.key, i)
			wantSeek(t, x, p.key+"\x00", i+1)
		}
	}
}

func TestPlacesOfFourBytes(t *testing.T) {
	b := &block.Builder{}
	value := letters(1024)
	const count = 17000
	for i := range count {
		wantAdd(t, b, pair{four(i), value}, api.OK)
	}
	// The first of four has 1 + 1 + 4 bytes ahead of its value's 3 + 1024; the others share two bytes, or three.
	size, want := 0, ""
	for i := range count {
		shared := 0
		if i%4 != 0 {
			shared = sharedByWords(four(i-1), four(i))
		} else {
			want += four(size)
		}
		size += 2 + 4 - shared + 3 + 1024
	}
	want += four(count)
	s := b.Finish()
	if len(s) != size+len(want) || s[size:] != want {
		t.Errorf("%d bytes; want %d; the last ones are %x; want %x", len(s), size+len(want), s[len(s)-12:], want[len(want)-12:])
	}
	if want[len(want)-8] != 1 {
		t.Errorf("the last place is %x", want[len(want)-8:len(want)-4])
	}
	x, errno := block.Open(s)
	if errno != api.OK || x.Len() != count {
		t.Fatalf("Open: %d", errno)
	}
	for _, i := range []int{0, 1, 3, 4, 5, 255, 256, 16383, 16384, count - 1} {
		wantAt(t, x, i, pair{four(i), value})
		wantSeek(t, x, four(i), i)
	}
	wantSeek(t, x, four(count), count)
}

// P11.2

func TestNilAndZeroBlocks(t *testing.T) {
	var none *block.Block
	empty, errno := block.Open("\x00\x00\x00\x00")
	if empty == nil || errno != api.OK {
		t.Fatalf("Open: %d", errno)
	}
	for _, b := range []*block.Block{none, {}, empty} {
		if got := b.Len(); got != 0 {
			t.Errorf("Len: %d; want 0", got)
		}
		for _, i := range []int{0, 1, -1, 4, math.MinInt, math.MaxInt} {
			wantNotAt(t, b, i)
		}
		for _, key := range []string{"", "\x00", "a", letters(1025), "\xff"} {
			wantSeek(t, b, key, 0)
		}
	}
}

// What is cut or has more may be another block's bytes: the words say when it is.
func TestBytesCutOrWithMore(t *testing.T) {
	for _, pairs := range append(few(), lastByte(300), growing("a"), numbered("key", 50)) {
		s := bytesByWords(pairs)
		for at := range len(s) {
			wantAsWords(t, "bytes cut short", s[:at])
			wantAsWords(t, "bytes without their beginning", s[at:])
			// Long bytes are changed near both ends, and at some places between.
			if at > 80 && at < len(s)-80 && at%17 != 0 {
				continue
			}
			wantAsWords(t, "bytes without one of them", s[:at]+s[at+1:])
			for _, more := range []string{"\x00", "\x01", "\xff", s[at : at+1], "\x00\x00\x00\x00"} {
				wantAsWords(t, "bytes with more in them", s[:at]+more+s[at:])
			}
		}
		for _, more := range []string{"\x00", "\x01", "\xff", "\x00\x00", "\x00\x00\x00", "\x00\x00\x00\x00", "\x00\x00\x00\x01", "\x00\x01a\x00", s, s + "\x00"} {
			wantAsWords(t, "bytes with more behind", s+more)
		}
	}
}

func TestTheChaptersBytesCutOrWithMore(t *testing.T) {
	s := fromHex(t, "00 02 61 62 01 31 01 01 63 00 00000000 00000002")
	for at := range len(s) {
		wantForm(t, "bytes cut short", s[:at])
		if at > 0 {
			wantForm(t, "a byte twice", s[:at]+s[at-1:])
			if at < len(s)-4 {
				wantForm(t, "bytes without their beginning", s[at:])
			}
		}
		for b := range 256 {
			wantAsWords(t, "a byte more", s[:at]+string([]byte{byte(b)})+s[at:])
		}
	}
}

// Any one byte changed to each other value: another block's bytes, or none's.
func TestEachByteChanged(t *testing.T) {
	opened := 0
	for _, pairs := range few() {
		row := []byte(bytesByWords(pairs))
		// Of longer blocks just some bytes are changed: most of them are like those of shorter ones.
		step := 1 + len(row)/40
		for at, was := range row {
			if at%step != 0 {
				continue
			}
			for b := range 256 {
				row[at] = byte(b)
				if byte(b) != was && wantAsWords(t, "bytes with one changed", string(row)) {
					opened++
				}
			}
			row[at] = was
		}
	}
	if opened < 1000 {
		t.Errorf("%d changed blocks are others; want more", opened)
	}
}

func TestBytesOfLongBlocksChanged(t *testing.T) {
	for _, pairs := range [][]pair{lastByte(247), lastByte(248), lastByte(1023), growing("a"), numbered(letters(60), 20), {{letters(1024), letters(1024)}}} {
		row := []byte(bytesByWords(pairs))
		for at, was := range row {
			if at > 60 && at < len(row)-60 && at%29 != 0 {
				continue
			}
			for _, mask := range []byte{1, 2, 4, 7, 8, 16, 32, 64, 128, 255} {
				row[at] = was ^ mask
				wantAsWords(t, "bytes with one changed", string(row))
			}
			row[at] = was
		}
	}
}

// raw: an entry's bytes that may be anything.
type raw struct {
	shared      uint64
	rest, value string
}

func (r raw) row() string { return numberRow(r.shared) + textRow(r.rest) + textRow(r.value) }

// rawBytes: what stands for a block with right places and a right count, whatever its entries are.
func rawBytes(entries ...raw) string {
	rows, foot := "", ""
	for i, r := range entries {
		if i%4 == 0 {
			foot += four(len(rows))
		}
		rows += r.row()
	}
	return rows + foot + four(len(entries))
}

// behindFour: four entries, and others behind them.
func behindFour(more ...raw) []raw {
	return append([]raw{{0, "ka", ""}, {1, "b", ""}, {1, "c", ""}, {1, "d", ""}}, more...)
}

func TestRawEntriesThatMayBe(t *testing.T) {
	wantOpen(t, rawBytes(raw{0, "ab", "1"}, raw{1, "c", ""}), []pair{{"ab", "1"}, {"ac", ""}})
	wantOpen(t, rawBytes(behindFour(raw{0, "ke", "v"}, raw{2, "e", ""})...), []pair{{"ka", ""}, {"kb", ""}, {"kc", ""}, {"kd", ""}, {"ke", "v"}, {"kee", ""}})
	long := letters(1023)
	wantOpen(t, rawBytes(raw{0, long, ""}, raw{1023, "a", ""}, raw{1023, "b", letters(1024)}), []pair{{long, ""}, {long + "a", ""}, {long + "b", letters(1024)}})
}

func TestSharesThatAreNotWhatIsInCommon(t *testing.T) {
	for what, entries := range map[string][]raw{
		"less than all, nothing":         {{0, "ab", ""}, {0, "ac", ""}},
		"less than all, one byte":        {{0, "abc", ""}, {1, "bd", ""}},
		"less than the whole key ahead":  {{0, "ab", ""}, {1, "bc", ""}},
		"nothing of the whole key ahead": {{0, "a", ""}, {0, "aa", ""}},
		"less in the third entry":        {{0, "a", ""}, {1, "a", ""}, {1, "aa", ""}},
		"less in the last of four":       {{0, "a", ""}, {1, "a", ""}, {2, "a", ""}, {2, "aa", ""}},
		"more than the key ahead has":    {{0, "ab", ""}, {3, "c", ""}},
		"more than no bytes":             {{0, "", ""}, {1, "a", ""}},
		"more, ahead of no rest":         {{0, "ab", ""}, {3, "", ""}},
		"as many as no text has":         {{0, "ab", ""}, {math.MaxUint64, "c", ""}},
		"as many as no int tells":        {{0, "ab", ""}, {1 << 63, "c", ""}},
		"all of the largest int":         {{0, "ab", ""}, {1<<63 - 1, "c", ""}},
		"2 in 32 bits":                   {{0, "ab", ""}, {1<<32 + 2, "c", ""}},
		"something at the first entry":   {{1, "b", ""}},
		"as many as nobody has, first":   {{math.MaxUint64, "b", ""}},
		"at a restart, one byte":         behindFour(raw{1, "e", ""}),
		"at a restart, all":              behindFour(raw{2, "e", ""}),
		"at a restart, too many":         behindFour(raw{3, "e", ""}),
		"behind a restart, nothing":      behindFour(raw{0, "ke", ""}, raw{0, "kf", ""}),
		"behind a restart, too much":     behindFour(raw{0, "ke", ""}, raw{3, "f", ""}),
		"of the key ahead of a restart":  behindFour(raw{0, "l", ""}, raw{2, "a", ""}),
		"at the third restart":           append(behindFour(raw{0, "ke", ""}, raw{1, "f", ""}, raw{1, "g", ""}, raw{1, "h", ""}), raw{1, "i", ""}),
		"less by one at 248":             {{0, letters(248) + "a", ""}, {247, letters(248)[247:] + "b", ""}},
		"more by one at 247":             {{0, letters(247) + "a", ""}, {249, "b", ""}},
	} {
		wantForm(t, "keys that share "+what, rawBytes(entries...))
	}
}

func TestKeysThatDoNotRiseInBytes(t *testing.T) {
	for what, entries := range map[string][]raw{
		"alike":                         {{0, "ab", ""}, {2, "", ""}},
		"alike and empty":               {{0, "", ""}, {0, "", ""}},
		"a beginning":                   {{0, "ab", ""}, {1, "", ""}},
		"nothing behind something":      {{0, "ab", ""}, {0, "", ""}},
		"lower in the last byte":        {{0, "ab", ""}, {1, "a", ""}},
		"lower in the first byte":       {{0, "ba", ""}, {0, "ab", ""}},
		"lower, and longer":             {{0, "ab", ""}, {1, "azzz", ""}},
		"lower as bytes, 128 and 127":   {{0, "\x80", ""}, {0, "\x7f", ""}},
		"lower as bytes, 255 and 0":     {{0, "\xff", ""}, {0, "\x00", ""}},
		"alike, the second and third":   {{0, "a", ""}, {1, "b", ""}, {2, "", ""}},
		"lower at a restart":            behindFour(raw{0, "kc", ""}),
		"alike at a restart":            behindFour(raw{0, "kd", ""}),
		"a beginning at a restart":      behindFour(raw{0, "k", ""}),
		"nothing at a restart":          behindFour(raw{0, "", ""}),
		"lower behind a restart":        behindFour(raw{0, "ke", ""}, raw{1, "d", ""}),
		"lower than two ahead":          {{0, "a", ""}, {0, "c", ""}, {0, "b", ""}},
		"alike to the first one":        {{0, "a", ""}, {0, "b", ""}, {0, "a", ""}},
		"alike, with other values":      {{0, "a", "1"}, {1, "", "2"}},
		"alike at the greatest length":  {{0, letters(1024), ""}, {1024, "", ""}},
		"alike at a restart, and longs": {{0, "a", ""}, {1, "a", ""}, {2, "a", ""}, {3, letters(1000), ""}, {0, "aaa" + letters(1000), ""}},
	} {
		wantForm(t, "keys that do not rise: "+what, rawBytes(entries...))
	}
}

func TestTooLongTextsInBytes(t *testing.T) {
	for _, size := range tooLong() {
		for what, entries := range map[string][]raw{
			"a key":                   {{0, letters(size), ""}},
			"a value":                 {{0, "k", letters(size)}},
			"both":                    {{0, letters(size), letters(size)}},
			"a value of no key":       {{0, "", letters(size)}},
			"a key at a restart":      behindFour(raw{0, "l" + letters(size-1), ""}),
			"a value at a restart":    behindFour(raw{0, "l", letters(size)}),
			"a key behind another":    {{0, "a", ""}, {1, letters(size - 1), ""}},
			"a value behind another":  {{0, "a", ""}, {1, "b", letters(size)}},
			"a key that shares 1":     {{0, "b", ""}, {1, letters(size - 1), ""}},
			"a key that shares most":  {{0, letters(1000), ""}, {1000, letters(size - 1000), ""}},
			"a key that shares 1024":  {{0, letters(1024), ""}, {1024, letters(size - 1024), ""}},
			"the fourth one's key":    {{0, letters(1000), ""}, {1000, "a", ""}, {1001, "a", ""}, {1002, letters(size - 1002), ""}},
			"a key behind a long one": {{0, letters(1024), ""}, {0, "b" + letters(size-1), ""}},
		} {
			wantForm(t, what+" of "+strconv.Itoa(size)+" bytes", rawBytes(entries...))
		}
	}
	// What is as long as may be.
	for what, entries := range map[string][]raw{
		"a key":                  {{0, letters(1024), ""}},
		"a value":                {{0, "k", letters(1024)}},
		"a key that shares 1000": {{0, letters(1000), ""}, {1000, letters(24), ""}},
		"a key that shares 1023": {{0, letters(1023), ""}, {1023, "a", ""}},
	} {
		if s := rawBytes(entries...); !wantAsWords(t, what, s) {
			t.Errorf("%s of 1024 bytes is no block's", what)
		}
	}
}

// longRows: a number's bytes in each form that is not the shortest.
func longRows(n uint64) []string {
	var rows []string
	for k := 1; k <= 8; k++ {
		whole := noughts(4) + four(int(n))
		row := string([]byte{byte(247 + k)}) + whole[8-k:]
		if row != numberRow(n) && (k > 1 || n < 256) && (k > 2 || n < 65536) {
			rows = append(rows, row)
		}
	}
	return rows
}

func TestNumbersInAnotherForm(t *testing.T) {
	end := "\x00\x00\x00\x00\x00\x00\x00\x02"
	first, second := raw{0, letters(260), letters(5)}, raw{255, "zz", letters(300)}
	wantAsIs := first.row() + second.row() + end
	if !wantAsWords(t, "the shortest forms", wantAsIs) {
		t.Errorf("%x is no block's", head(wantAsIs))
	}
	tried := 0
	for at, r := range []raw{first, second} {
		for _, part := range []string{"shared", "rest", "value"} {
			n := map[string]uint64{"shared": r.shared, "rest": uint64(len(r.rest)), "value": uint64(len(r.value))}[part]
			for _, long := range longRows(n) {
				shared, rest, value := numberRow(r.shared), textRow(r.rest), textRow(r.value)
				switch part {
				case "shared":
					shared = long
				case "rest":
					rest = long + r.rest
				case "value":
					value = long + r.value
				}
				rows := shared + rest + value + second.row()
				if at == 1 {
					rows = first.row() + shared + rest + value
				}
				wantForm(t, part+" in another form", rows+end)
				tried++
			}
		}
	}
	if tried < 40 {
		t.Errorf("%d forms were tried", tried)
	}
}

// Lengths that nobody has room for.
func TestLengthsBeyondWhatIsThere(t *testing.T) {
	for _, n := range []uint64{2, 3, 9, 10, 247, 248, 255, 256, 1024, 1025, 1 << 16, 1<<31 - 1, 1 << 31, 1<<32 - 1, 1 << 32, 1<<32 + 1, 1<<63 - 1, 1 << 63, math.MaxUint64 - 1, math.MaxUint64} {
		for _, rows := range []string{"\x00" + numberRow(n) + "a\x00", "\x00\x01a" + numberRow(n) + "v", "\x00" + numberRow(n), "\x00\x01a" + numberRow(n), numberRow(n), numberRow(n) + "\x01a\x00"} {
			wantForm(t, "a length beyond all", rows+"\x00\x00\x00\x00\x00\x00\x00\x01")
			wantForm(t, "a length beyond all", rows+"\x00\x00\x00\x01")
		}
	}
}

func TestPlacesOfRestarts(t *testing.T) {
	for _, count := range []int{1, 4, 5, 8, 9, 13} {
		s := bytesByWords(numbered("k", count))
		restarts := (count + 3) / 4
		foot := len(s) - 4 - 4*restarts
		for at := range restarts {
			begin := foot + 4*at
			for n := range foot + 300 {
				wantAsWords(t, "other places", s[:begin]+four(n)+s[begin+4:])
			}
			for _, n := range []int{1 << 8, 1 << 16, 1 << 24, 1 << 31, 1<<32 - 1} {
				wantForm(t, "places that are far off", s[:begin]+four(n)+s[begin+4:])
			}
			wantForm(t, "a place too few", s[:begin]+s[begin+4:])
			wantForm(t, "a place twice", s[:begin]+s[begin:begin+4]+s[begin:])
			// The least byte first.
			if place := []byte(s[begin : begin+4]); place[3] != 0 {
				slices.Reverse(place)
				wantForm(t, "a place turned round", s[:begin]+string(place)+s[begin+4:])
			}
		}
		if restarts > 1 {
			wantForm(t, "places in another row", s[:foot]+s[foot+4:foot+8]+s[foot:foot+4]+s[foot+8:])
		}
		wantForm(t, "bytes ahead of the places", s[:foot]+"\x00"+s[foot:])
		wantForm(t, "an entry that no count tells", s[:foot]+"\x00\x02zz\x00"+s[foot:])
	}
}

func TestHowManyEntriesAreTold(t *testing.T) {
	for _, count := range []int{0, 1, 3, 4, 5, 8, 9} {
		s := bytesByWords(numbered("k", count))
		rest := s[:len(s)-4]
		for n := range 300 {
			if n != count {
				wantForm(t, "a wrong count", rest+four(n))
				// With places for as many.
				wantForm(t, "a wrong count, and places", rest+noughts(4*max(0, (n+3)/4-(count+3)/4))+four(n))
			}
		}
		for _, n := range []int{1 << 8, 1 << 16, 1 << 24, 1 << 30, 1<<30 + 1, 1<<31 - 1, 1 << 31, 1<<32 - 4, 1<<32 - 3, 1<<32 - 2, 1<<32 - 1} {
			wantForm(t, "a count that is far off", rest+four(n))
			wantForm(t, "a count that is far off", four(n))
			wantForm(t, "a count that is far off", noughts(5000)+four(n))
		}
	}
	for n := 1; n < 5; n++ {
		wantForm(t, "too few bytes", noughts(4-n))
		wantForm(t, "entries without bytes", four(n))
		wantForm(t, "entries without bytes, with a place", four(0)+four(n))
	}
}

// smallRows: texts of up to so many bytes of an alphabet.
func smallRows(most int, alphabet string) []string {
	texts := []string{""}
	last := texts
	for range most {
		var longer []string
		for _, s := range last {
			for i := range len(alphabet) {
				longer = append(longer, s+alphabet[i:i+1])
			}
		}
		texts = append(texts, longer...)
		last = longer
	}
	return texts
}

// All short texts of a small alphabet, with what may stand behind entries.
func TestSmallTexts(t *testing.T) {
	opened := 0
	for _, rows := range smallRows(8, "\x00\x01\x02a") {
		for count := range 4 {
			foot := four(0) + four(count)
			if count == 0 {
				foot = four(0)
			}
			if wantAsWords(t, "a small text", rows+foot) {
				opened++
			}
		}
	}
	if opened < 50 {
		t.Errorf("%d small texts are blocks'; want more", opened)
	}
	for _, s := range smallRows(8, "\x00\x01\xf8\xff") {
		wantAsWords(t, "a small text", s)
	}
}

// Blocks' bytes, changed in one place or a few, in ways that look like chance.
func TestManyChangedBytes(t *testing.T) {
	maker := numberMaker(1)
	blocks := few()
	opened := 0
	for range 60000 {
		row := []byte(bytesByWords(blocks[maker.below(len(blocks))]))
		for range 1 + maker.below(3) {
			at := maker.below(len(row))
			size := min(maker.below(5), len(row)-at)
			switch maker.below(4) {
			case 0:
				row[at] = byte(maker.next())
			case 1:
				row[at] += byte(maker.below(3) - 1)
			case 2:
				row = slices.Delete(row, at, at+size)
			case 3:
				row = slices.Insert(row, at, row[at:at+size]...)
			}
			if len(row) == 0 {
				break
			}
		}
		if wantAsWords(t, "changed bytes", string(row)) {
			opened++
		}
	}
	if opened < 1000 {
		t.Errorf("%d changed texts are blocks'; want more", opened)
	}
}

// P11.3

// wantThereAndBack: what a builder told is opened, and what was opened is built again.
func wantThereAndBack(t *testing.T, pairs []pair) *block.Block {
	t.Helper()
	b := &block.Builder{}
	add(t, b, pairs)
	s := b.Finish()
	x := wantOpen(t, s, pairs)
	if x == nil {
		return nil
	}
	for i := range x.Len() {
		key, value, _ := x.At(i)
		wantAdd(t, b, pair{key, value}, api.OK)
	}
	if got := b.Finish(); got != s {
		t.Errorf("built again: %x (%d bytes); ahead %x (%d bytes)", head(got), len(got), head(s), len(s))
	}
	return x
}

func TestThereAndBack(t *testing.T) {
	for _, pairs := range append(few(), large()...) {
		wantThereAndBack(t, pairs)
	}
}

// edgeLists: all lists of some keys that are near one another, rising.
func edgeLists() [][]pair {
	keys := []string{"", "\x00", "\x01", "a", "a\x00", "aa", "aab", "ab", "b", "\x7f", "\x80", "\xff"}
	slices.Sort(keys)
	var lists [][]pair
	for set := range 1 << len(keys) {
		var list []string
		for i, key := range keys {
			if set>>i&1 == 1 {
				list = append(list, key)
			}
		}
		lists = append(lists, keyed(list...))
	}
	return lists
}

func TestThereAndBackOfAllLists(t *testing.T) {
	for _, pairs := range edgeLists() {
		b := &block.Builder{}
		add(t, b, pairs)
		wantFinish(t, b, pairs)
		wantThereAndBack(t, pairs)
	}
}

// chance: entries that look like chance.
func chance(maker *numberMaker) []pair {
	alphabet := []string{"ab", "\x00\x01\xff", "a", "abcdefghijklmnopqrstuvwxyz"}[maker.below(4)]
	begin := maker.text([]int{0, 0, 1, 5, 247, 1000}[maker.below(6)], alphabet)
	var keys []string
	for range maker.below(40) {
		keys = append(keys, begin+maker.text(maker.below(8), alphabet))
	}
	return keyed(keys...)
}

func TestThereAndBackOfManyLists(t *testing.T) {
	maker := numberMaker(2)
	for range 2000 {
		pairs := chance(&maker)
		b := &block.Builder{}
		add(t, b, pairs)
		wantFinish(t, b, pairs)
		wantThereAndBack(t, pairs)
	}
}

// P11.4

// wantParts: Seek parts the keys, whatever is asked for.
func wantParts(t *testing.T, b *block.Block, pairs []pair, keys []string) {
	t.Helper()
	for _, key := range keys {
		want := 0
		for want < len(pairs) && pairs[want].key < key {
			want++
		}
		wantSeek(t, b, key, want)
	}
}

func TestSeek(t *testing.T) {
	for _, pairs := range append(few(), growing("a"), growing("\x00"), growing("\xff"), lastByte(0), lastByte(255), lastByte(1023), numbered("", 50), numbered(letters(300), 50), numbered("key-", 300)) {
		x := wantOpen(t, bytesByWords(pairs), pairs)
		wantParts(t, x, pairs, around(pairs))
	}
}

func TestSeekInAllLists(t *testing.T) {
	keys := []string{"", "\x00", "\x00\x00", "\x01", "Z", "a", "a\x00", "a\x00\x00", "a\x01", "a\xff", "aa", "aaa", "aab", "aab\x00", "aac", "ab", "ab\x00", "b", "c", "\x7f", "\x7f\xff", "\x80", "\x81", "\xff", "\xff\x00"}
	for _, pairs := range edgeLists() {
		x, _ := block.Open(bytesByWords(pairs))
		wantParts(t, x, pairs, keys)
	}
}

func TestSeekInManyLists(t *testing.T) {
	maker := numberMaker(3)
	for range 500 {
		pairs := chance(&maker)
		x := wantThereAndBack(t, pairs)
		wantParts(t, x, pairs, around(pairs))
	}
}

// R3, R4

// lies: does the memory of a text lie in that of another one?
func lies(text, in string) bool {
	if text == "" || in == "" {
		return false
	}
	begin, at := uintptr(unsafe.Pointer(unsafe.StringData(in))), uintptr(unsafe.Pointer(unsafe.StringData(text)))
	return begin <= at && at < begin+uintptr(len(in))
}

// spoilable: a text whose bytes are changed by what is told with it.
func spoilable(text string) (string, func()) {
	bytes := []byte(text)
	spoil := func() {
		for i := range bytes {
			bytes[i] = '#'
		}
	}
	return unsafe.String(unsafe.SliceData(bytes), len(bytes)), spoil
}

func TestAskedAgain(t *testing.T) {
	for _, pairs := range few() {
		s := bytesByWords(pairs)
		x, y := wantOpen(t, s, pairs), wantOpen(t, s, pairs)
		for range 2 {
			for i := range pairs {
				i = len(pairs) - 1 - i
				wantSeek(t, x, pairs[i].key, i)
				wantAt(t, x, i, pairs[i])
				wantAt(t, y, i, pairs[i])
			}
			wantNotAt(t, x, len(pairs))
			wantSeek(t, y, "", 0)
		}
	}
}

func TestWhatIsToldIsMemoryOfItsOwn(t *testing.T) {
	pairs := []pair{{"long key 1", "long value 1"}, {"long key 2", "long value 2"}, {"long key 2 3", "long value 3"}}
	s, spoil := spoilable(bytesByWords(pairs))
	x, errno := block.Open(s)
	if errno != api.OK {
		t.Fatalf("Open: %d", errno)
	}
	for i := range pairs {
		key, value, _ := x.At(i)
		again, same, _ := x.At(i)
		if lies(key, s) || lies(value, s) {
			t.Errorf("At(%d) tells memory of the bytes that were opened", i)
		}
		if lies(key, again) || lies(value, same) {
			t.Errorf("At(%d), asked again, tells the same memory", i)
		}
	}
	spoil()
	for i, p := range pairs {
		wantAt(t, x, i, p)
		wantSeek(t, x, p.key, i)
		wantSeek(t, x, p.key+"\x00", i+1)
	}
}

func TestWhatIsAddedIsNotKept(t *testing.T) {
	pairs := append(lastByte(300), numbered("key", 9)...)
	b := &block.Builder{}
	for i, p := range pairs {
		key, spoilKey := spoilable(p.key)
		value, spoilValue := spoilable(p.value)
		wantAdd(t, b, pair{key, value}, api.OK)
		if key != p.key || value != p.value {
			t.Errorf("Add changes what is handed in to %q, %q", head(key), head(value))
		}
		spoilKey()
		spoilValue()
		wantAdd(t, b, p, api.ErrArg)
		wantHas(t, b, pairs[:i+1])
	}
	wantFinish(t, b, pairs)
}

// What Finish told stays, whatever the builder does behind it.
func TestFinishedBytesStay(t *testing.T) {
	b := &block.Builder{}
	var told, want []string
	for range 3 {
		for _, pairs := range few() {
			add(t, b, pairs)
			s := b.Finish()
			told, want = append(told, s), append(want, bytesByWords(pairs))
			for _, other := range told[:len(told)-1] {
				if lies(s, other) {
					t.Fatalf("two blocks' bytes lie in one memory")
				}
			}
		}
	}
	if !slices.Equal(told, want) {
		t.Errorf("bytes that were told have changed")
	}
}

func TestWhatIsHandedInStays(t *testing.T) {
	for _, pairs := range few() {
		want := bytesByWords(pairs)
		s, _ := spoilable(want)
		x, _ := block.Open(s)
		for i, p := range pairs {
			key, _ := spoilable(p.key)
			x.Seek(key)
			x.At(i)
			if key != p.key {
				t.Errorf("Seek changes the key to %q", key)
			}
		}
		block.Open(s[:len(s)-1])
		if s != want {
			t.Errorf("the bytes are %x; ahead %x", head(s), head(want))
		}
	}
}

// A block knows nothing of another one, nor of the builder that made its bytes.
func TestBlocksBesideOneAnother(t *testing.T) {
	b := &block.Builder{}
	one, two := numbered("a", 9), keyed(edgeKeys()...)
	add(t, b, one)
	x := wantOpen(t, b.Finish(), one)
	add(t, b, two)
	y := wantOpen(t, b.Finish(), two)
	add(t, b, one)
	for i, p := range one {
		wantAt(t, x, i, p)
		wantSeek(t, x, p.key, i)
	}
	for i, p := range two {
		wantAt(t, y, i, p)
		wantSeek(t, y, p.key, i)
	}
	wantFinish(t, b, one)
}
