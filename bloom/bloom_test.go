package bloom

import (
	"encoding/hex"
	"hash/fnv"
	"math/big"
	"math/bits"
	"slices"
	"strconv"
	"strings"
	"testing"
	"unsafe"

	"copyhold/api"
)

// numberMaker: numbers that look like chance, the same ones in each run.
type numberMaker uint64

func (m *numberMaker) next() uint32 {
	*m = *m*6364136223846793005 + 1442695040888963407
	return uint32(*m >> 32)
}

// below: a number from 0 on, below n.
func (m *numberMaker) below(n int) int { return int(m.next()) % n }

// text: so many bytes of any kind.
func (m *numberMaker) text(size int) string {
	b := make([]byte, size)
	for i := range b {
		b[i] = byte(m.next())
	}
	return string(b)
}

// noughts: so many bytes 0.
func noughts(size int) string { return strings.Repeat("\x00", size) }

// full: so many bytes 255.
func full(size int) string { return strings.Repeat("\xff", size) }

// allBytes: each byte once.
func allBytes() string {
	b := make([]byte, 256)
	for i := range b {
		b[i] = byte(i)
	}
	return string(b)
}

// manyKeys: no two alike: the empty one, each byte alone, beginnings of one another, lengths on both sides of MaxKey, long ones, such as are no UTF-8.
func manyKeys() []string {
	keys := []string{"", "\x00\x00", "\x00\x01", "\x01\x00", "\xff\xff", "\x7f\x80", "\x80\x7f", "aa", "ab", "ba", "abc", "abcd", "a\x00", "a\x00b", "foobar", "é", "\xc3\x28", "\xff\xfe", "key", "key0", "key1", "key10", allBytes()}
	for b := range 256 {
		keys = append(keys, string([]byte{byte(b)}))
	}
	for _, size := range []int{3, 7, 8, 9, 63, 64, 65, 255, 256, 257, 300, 512, 4096} {
		keys = append(keys, noughts(size), full(size), strings.Repeat("a", size))
	}
	maker := numberMaker(3)
	for size := 3; size < 100; size++ {
		keys = append(keys, maker.text(size))
	}
	return keys
}

// numbered: so many keys, no two alike.
func numbered(begin string, n int) []string {
	var keys []string
	for i := range n {
		keys = append(keys, begin+strconv.Itoa(i))
	}
	return keys
}

// alike: a key, so many times.
func alike(key string, n int) []string { return slices.Repeat([]string{key}, n) }

// hashByWords: the chapter's words, in numbers without an end.
func hashByWords(key string) uint64 {
	end := new(big.Int).Lsh(big.NewInt(1), 64)
	whole, _ := new(big.Int).SetString("cbf29ce484222325", 16)
	factor, _ := new(big.Int).SetString("100000001b3", 16)
	for i := range len(key) {
		lowest := new(big.Int).Mod(whole, big.NewInt(256))
		whole.Sub(whole, lowest)
		lowest.Xor(lowest, big.NewInt(int64(key[i])))
		whole.Add(whole, lowest)
		whole.Mod(whole.Mul(whole, factor), end)
	}
	return whole.Uint64()
}

// probesByWords: a key's bits in a filter of so many bits.
func probesByWords(key string, count uint64) []uint64 {
	const round = 1 << 32
	sum := fnv.New64a()
	sum.Write([]byte(key))
	a, b := sum.Sum64()%round, sum.Sum64()/round
	if b%2 == 0 {
		b++
	}
	var probes []uint64
	for i := range uint64(6) {
		probes = append(probes, (a+i*b)%round%count)
	}
	return probes
}

// bytesOf: so many bytes in which just these bits are 1.
func bytesOf(size int, ones ...uint64) string {
	row := make([]byte, size)
	for _, one := range ones {
		row[one/8] |= []byte{1, 2, 4, 8, 16, 32, 64, 128}[one%8]
	}
	return string(row)
}

// sizeByWords: as many bytes as hold ten bits a key, or 64.
func sizeByWords(n int) int {
	size := 8
	for size*8 < 10*n {
		size++
	}
	return size
}

// filterByWords: a filter, by the chapter's words.
func filterByWords(keys ...string) string {
	size := sizeByWords(len(keys))
	var ones []uint64
	for _, key := range keys {
		ones = append(ones, probesByWords(key, uint64(size)*8)...)
	}
	return bytesOf(size, ones...)
}

// isOne: a filter's bit.
func isOne(filter string, bit uint64) bool {
	return int(filter[bit/8])/[]int{1, 2, 4, 8, 16, 32, 64, 128}[bit%8]%2 == 1
}

// mayByWords: are all the key's bits 1?
func mayByWords(filter, key string) bool {
	if len(filter) == 0 {
		return false
	}
	for _, bit := range probesByWords(key, uint64(len(filter))*8) {
		if !isOne(filter, bit) {
			return false
		}
	}
	return true
}

// ones: how many bits of a filter are 1.
func ones(filter string) int {
	count := 0
	for i := range len(filter) {
		count += bits.OnesCount8(filter[i])
	}
	return count
}

// fromHex: the bytes that some digits tell.
func fromHex(t *testing.T, digits string) string {
	t.Helper()
	row, err := hex.DecodeString(digits)
	if err != nil {
		t.Fatal(err)
	}
	return string(row)
}

func wantFilter(t *testing.T, want string, keys ...string) {
	t.Helper()
	if got := Make(keys...); got != want {
		t.Errorf("Make of %d keys, %.200q: %x; want %x", len(keys), keys, got, want)
	}
}

func wantMay(t *testing.T, filter, key string, want bool) {
	t.Helper()
	if got := May(filter, key); got != want {
		t.Errorf("May(%.100x of %d bytes, %.100q): %v; want %v", filter, len(filter), key, got, want)
	}
}

// P10.1: Hash

func TestHashesThatAreKnown(t *testing.T) {
	for _, x := range []struct {
		key  string
		hash uint64
	}{
		{"", 0xcbf29ce484222325}, {"a", 0xaf63dc4c8601ec8c}, // of the chapter
		{"b", 0xaf63df4c8601f1a5}, {"foobar", 0x85944171f73967e8},
		{"\x00", 0xaf63bd4c8601b7df}, {"\x01", 0xaf63bc4c8601b62c}, {"\x7f", 0xaf63f24c860211ee}, {"\x80", 0xaf643d4c8602915f}, {"\xff", 0xaf64724c8602eb6e},
		{"ab", 0x089c4407b545986a}, {"abc", 0xe71fa2190541574b}, {"\x00\x00", 0x08328807b4eb6fed}, {"a\x00", 0x089be207b544f1e4}, // beginnings of one another
		{strings.Repeat("a", 64), 0xdb007849f35ebbe5}, {strings.Repeat("a", 65), 0x8087e9a889f8a14c}, {noughts(300), 0x54191692fe7f4315}, {full(300), 0xf0b4532624147149}, {allBytes(), 0x4242dc5249c33625},
	} {
		if got := Hash(x.key); got != x.hash {
			t.Errorf("Hash(%q): %#x; want %#x", x.key, got, x.hash)
		}
	}
}

func TestHashesAreTheLibrarys(t *testing.T) {
	maker := numberMaker(5)
	keys := append(manyKeys(), noughts(1<<20), full(1<<20), maker.text(1<<20+1))
	for _, key := range keys {
		sum := fnv.New64a()
		sum.Write([]byte(key))
		if got, want := Hash(key), sum.Sum64(); got != want {
			t.Errorf("Hash of %d bytes, %.80q: %#x; want %#x", len(key), key, got, want)
		}
	}
}

func TestHashesByTheWords(t *testing.T) {
	for _, key := range manyKeys() {
		if got, want := Hash(key), hashByWords(key); got != want {
			t.Errorf("Hash of %d bytes, %.80q: %#x; want %#x", len(key), key, got, want)
		}
	}
}

// All pairs of bytes, and each beginning of a long key.
func TestHashesGoOnByteByByte(t *testing.T) {
	for i := range 256 * 256 {
		key := string([]byte{byte(i / 256), byte(i)})
		if got, want := Hash(key), (Hash(key[:1])^uint64(key[1]))*0x100000001b3; got != want {
			t.Errorf("Hash(%x): %#x; want %#x", key, got, want)
		}
	}
	maker := numberMaker(7)
	long := maker.text(2000)
	for i := range len(long) {
		if got, want := Hash(long[:i+1]), (Hash(long[:i])^uint64(long[i]))*0x100000001b3; got != want {
			t.Errorf("Hash of %d bytes: %#x; want %#x", i+1, got, want)
		}
	}
}

// P10.1: Make

func TestHowManyBytesFiltersHave(t *testing.T) {
	for n, size := range map[int]int{0: 8, 1: 8, 2: 8, 5: 8, 6: 8, 7: 9, 8: 10, 9: 12, 10: 13, 11: 14, 12: 15, 13: 17, 14: 18, 15: 19, 16: 20, 17: 22, 99: 124, 100: 125, 101: 127, 255: 319, 256: 320, 1000: 1250, 65537: 81922} {
		for _, keys := range [][]string{numbered("key", n), alike("key", n), alike("", n)} {
			if got := len(Make(keys...)); got != size {
				t.Errorf("Make of %d keys: %d bytes; want %d", n, got, size)
			}
		}
	}
	for n := range 400 {
		if got, want := len(Make(numbered("", n)...)), sizeByWords(n); got != want {
			t.Errorf("Make of %d keys: %d bytes; want %d", n, got, want)
		}
	}
}

func TestFiltersOfNoKey(t *testing.T) {
	wantFilter(t, noughts(8))
	wantFilter(t, noughts(8), []string(nil)...)
	wantFilter(t, noughts(8), []string{}...)
}

func TestFiltersWrittenOut(t *testing.T) {
	for _, x := range []struct {
		digits string
		keys   []string
	}{
		{"0004104020800002", []string{""}},
		{"0130000240000800", []string{"a"}},
		{"0010000260000480", []string{"b"}},
		{"0130000260000c80", []string{"a", "b"}},
		{"0130000240000800", alike("a", 6)},
		{"000100104000020820", alike("a", 7)},
		{"7005eb7a7c4c06b8b7", []string{"a", "b", "c", "d", "e", "f", "g"}},
		{"2e4d1789ea5a247110d8a2fb8216c2", strings.Split(allBytes()[:12], "")},
		{"be11c5b8473026bef04a7e69448d860809", strings.Split(allBytes()[:13], "")},
	} {
		wantFilter(t, fromHex(t, x.digits), x.keys...)
	}
}

func TestEachBitOfFilters(t *testing.T) {
	for _, key := range manyKeys() {
		wantFilter(t, filterByWords(key), key)
		wantFilter(t, filterByWords(alike(key, 7)...), alike(key, 7)...)
		wantFilter(t, filterByWords(alike(key, 100)...), alike(key, 100)...)
		wantFilter(t, filterByWords(key, "a", key), key, "a", key)
	}
	for n := range len(manyKeys()) {
		wantFilter(t, filterByWords(manyKeys()[:n]...), manyKeys()[:n]...)
	}
	for _, n := range []int{1, 2, 5, 6, 7, 8, 9, 12, 13, 14, 99, 100, 101, 1000, 20000} {
		wantFilter(t, filterByWords(numbered("key", n)...), numbered("key", n)...)
	}
}

// Two keys, all pairs of single bytes, and keys in lists that look like chance.
func TestFiltersOfOtherLists(t *testing.T) {
	for i := range 256 * 256 {
		keys := []string{string([]byte{byte(i / 256)}), string([]byte{byte(i)})}
		wantFilter(t, filterByWords(keys...), keys...)
	}
	maker := numberMaker(11)
	for range 2000 {
		var keys []string
		for range maker.below(40) {
			keys = append(keys, maker.text(maker.below(6)))
		}
		wantFilter(t, filterByWords(keys...), keys...)
	}
}

// probes: a key's six, written out, in a filter of so many bits.
type probes struct {
	key   string
	count int
	bits  []uint64
}

// writtenOut: in filters that Make tells, and in such of 8, 88 and 1008 bits, which it never does; of keys whose b is even till its lowest bit is set, and of others.
func writtenOut() []probes {
	return []probes{
		{"", 8, []uint64{5, 2, 7, 4, 1, 6}},
		{"", 64, []uint64{37, 10, 47, 20, 57, 30}},
		{"", 72, []uint64{61, 26, 63, 68, 33, 70}},
		{"", 1000, []uint64{733, 162, 591, 316, 745, 174}},
		{"a", 8, []uint64{4, 1, 6, 3, 0, 5}},
		{"a", 64, []uint64{12, 25, 38, 51, 0, 13}},
		{"a", 72, []uint64{28, 49, 38, 59, 8, 69}},
		{"a", 80, []uint64{76, 41, 22, 67, 32, 13}},
		{"a", 88, []uint64{20, 33, 6, 19, 32, 5}},
		{"a", 1000, []uint64{36, 1, 262, 227, 192, 453}},
		{"a", 1008, []uint64{604, 985, 614, 995, 368, 1005}},
		{"b", 64, []uint64{37, 50, 63, 12, 25, 38}},
		{"b", 72, []uint64{37, 34, 71, 68, 65, 30}},
		{"foobar", 64, []uint64{40, 25, 10, 59, 44, 29}},
		{"foobar", 72, []uint64{48, 65, 10, 67, 12, 69}},
		{"foobar", 1000, []uint64{504, 17, 530, 339, 852, 661}},
		{"abc", 64, []uint64{11, 36, 61, 22, 47, 8}},
		{"abc", 72, []uint64{19, 60, 61, 62, 63, 64}},
		{"abc", 1008, []uint64{523, 852, 925, 998, 63, 136}},
		{"\x00", 64, []uint64{31, 44, 57, 6, 19, 32}},
		{"\x00", 72, []uint64{7, 12, 57, 62, 67, 40}},
		{"\x00\x00", 80, []uint64{13, 4, 75, 66, 57, 48}},
		{"\xff", 88, []uint64{62, 19, 24, 69, 26, 31}},
		{strings.Repeat("a", 65), 72, []uint64{28, 29, 70, 71, 40, 41}},
		{full(300), 64, []uint64{9, 48, 23, 62, 37, 12}},
		{full(300), 1000, []uint64{497, 808, 119, 726, 37, 348}},
	}
}

// wantProbes: these bits let a key in, and each of them alone keeps it out.
func wantProbes(t *testing.T, x probes) {
	t.Helper()
	size := x.count / 8
	wantMay(t, bytesOf(size, x.bits...), x.key, true)
	for bit := range uint64(x.count) {
		but := []byte(full(size))
		but[bit/8] -= 1 << (bit % 8)
		wantMay(t, string(but), x.key, !slices.Contains(x.bits, bit))
	}
	for i := range x.bits {
		wantMay(t, bytesOf(size, slices.Delete(slices.Clone(x.bits), i, i+1)...), x.key, false)
	}
}

func TestTheSixProbes(t *testing.T) {
	for _, x := range writtenOut() {
		wantProbes(t, x)
		// A filter of that size, but for sizes that none has.
		if n := x.count / 10; sizeByWords(n)*8 == x.count {
			wantFilter(t, bytesOf(x.count/8, x.bits...), alike(x.key, n)...)
		}
	}
	for _, key := range manyKeys()[:40] {
		for _, size := range []int{1, 2, 3, 7, 8, 9, 10, 11, 12, 15, 100, 125} {
			wantProbes(t, probes{key, size * 8, probesByWords(key, uint64(size)*8)})
		}
	}
}

// Sums that go past 2^32 begin again at 0: what they would be without that are other bits.
func TestProbesPastTheEdge(t *testing.T) {
	for _, x := range []probes{
		{"a", 72, []uint64{28, 17, 6, 67, 56, 45}},
		{"foobar", 72, []uint64{48, 33, 18, 3, 60, 45}},
		{"", 72, []uint64{61, 66, 71, 4, 9, 14}},
		{"abc", 72, []uint64{19, 60, 29, 70, 39, 8}},
	} {
		wantMay(t, bytesOf(9, x.bits...), x.key, false)
		round := probesByWords(x.key, 72)
		wantMay(t, bytesOf(9, round...), x.key, true)
		wantFilter(t, bytesOf(9, round...), alike(x.key, 7)...)
		if slices.Equal(round, x.bits) {
			t.Errorf("no sum of %q goes past the edge", x.key)
		}
	}
}

// P10.2

func TestWhatTheChapterSaysOfMay(t *testing.T) {
	wantMay(t, Make("a", "b"), "a", true)
	wantMay(t, "", "a", false)
	wantMay(t, noughts(8), "a", false)
	wantMay(t, "\xff", "a", true)
}

func TestFiltersOfAllNoughtsAndAllOnes(t *testing.T) {
	for _, key := range manyKeys() {
		wantMay(t, "", key, false)
		wantMay(t, Make(), key, false)
		for size := 1; size < 40; size++ {
			wantMay(t, noughts(size), key, false)
			wantMay(t, full(size), key, true)
		}
		wantMay(t, noughts(1<<16), key, false)
		wantMay(t, full(1<<16+1), key, true)
	}
}

func TestFiltersOfOneByte(t *testing.T) {
	for _, key := range manyKeys() {
		for b := range 256 {
			filter := string([]byte{byte(b)})
			wantMay(t, filter, key, mayByWords(filter, key))
		}
		for bit := range uint64(8) {
			wantMay(t, bytesOf(1, bit), key, false)
		}
	}
	// Six bits of eight are enough, if they are the key's.
	wantMay(t, "\x7b", "a", true)
	wantMay(t, "\xfb", "a", true)
	wantMay(t, "\x7f", "a", true)
	wantMay(t, "\x7a", "a", false)
	wantMay(t, "\xf7", "a", false)
	wantMay(t, "\xf6", "", true)
	wantMay(t, "\x7b", "", false)
}

func TestKeysThatAreNotInAFilter(t *testing.T) {
	six := Make("a", "b", "c", "d", "e", "f")
	hundred := Make(numbered("key", 100)...)
	for _, x := range []struct {
		filter, key string
		may         bool
	}{
		{Make("a"), "gaas", true}, {Make("a"), "b", false}, {Make("a"), "", false}, {Make("a"), "aa", false}, {Make("a"), "a\x00", false},
		{Make("a", "b"), "c", true}, {Make("a", "b"), "d", false},
		{six, "g", true}, {six, "gaap", true}, {six, "h", false}, {six, "", false},
		{hundred, "b", true}, {hundred, "bt", true}, {hundred, "other81", true}, {hundred, "other485", true},
		{hundred, "a", false}, {hundred, "other80", false}, {hundred, "other82", false}, {hundred, "", false}, {hundred, "key", false}, {hundred, "key100", false},
		{Make(""), "", true}, {Make(""), "a", false}, {Make(""), "\x00", false},
		{Make("\x00"), "", false}, {Make("\x00"), "\x00\x00", false},
	} {
		wantMay(t, x.filter, x.key, x.may)
	}
}

// Filters of each size, also such that no Make tells, with few and with many ones, against the words.
func TestMayOfAnyFilter(t *testing.T) {
	maker := numberMaker(13)
	keys := manyKeys()
	answers := map[bool]int{}
	for size := range 40 {
		for range 40 {
			filter := []byte(maker.text(size))
			for i := range filter {
				switch maker.below(3) {
				case 0:
					filter[i] |= byte(maker.next())
				case 1:
					filter[i] |= byte(maker.next()) | byte(maker.next()) | byte(maker.next())
				}
			}
			for range 40 {
				key := keys[maker.below(len(keys))]
				want := mayByWords(string(filter), key)
				answers[want]++
				wantMay(t, string(filter), key, want)
			}
		}
	}
	if answers[true] < 1000 || answers[false] < 1000 {
		t.Errorf("answers: %v", answers)
	}
}

// Filters that Make tells, cut short or with more behind.
func TestMayOfFiltersThatWereCut(t *testing.T) {
	for _, n := range []int{1, 6, 7, 8, 30} {
		keys := numbered("key", n)
		filter := Make(keys...)
		for _, key := range append(keys, "", "a", "other", "key") {
			for size := range len(filter) + 1 {
				wantMay(t, filter[:size], key, mayByWords(filter[:size], key))
			}
			for _, more := range []string{"\x00", "\xff", "a", filter} {
				wantMay(t, filter+more, key, mayByWords(filter+more, key))
			}
		}
	}
}

// longRow: where long filters lie. It is not gone through, so that bytes of it which nobody asks cost nothing.
var longRow [1<<29 + 1]byte

// Filters whose bits are more than a number of 32 bits tells.
func TestMayOfALongFilter(t *testing.T) {
	row := longRow[:]
	for _, size := range []int{1 << 28, 1<<29 - 1, 1 << 29, 1<<29 + 1} {
		filter := unsafe.String(&row[0], size)
		for _, key := range []string{"", "a", "b", "foobar", full(300)} {
			found := probesByWords(key, uint64(size)*8)
			wantMay(t, filter, key, false)
			for i, bit := range found {
				row[bit/8] |= 1 << (bit % 8)
				wantMay(t, filter, key, i == 5)
			}
			for _, bit := range found {
				row[bit/8] = 0
			}
		}
	}
}

// P10.3

func TestNoKeyIsMissed(t *testing.T) {
	for n := range len(manyKeys()) + 1 {
		keys := manyKeys()[:n]
		filter := Make(keys...)
		for _, key := range keys {
			wantMay(t, filter, key, true)
		}
	}
	for n := range 102 {
		keys := numbered("key", n)
		for _, list := range [][]string{keys, append(slices.Clone(keys), keys...), append(alike("", n), keys...)} {
			filter := Make(list...)
			for _, key := range list {
				wantMay(t, filter, key, true)
			}
		}
	}
	maker := numberMaker(17)
	for range 2000 {
		var keys []string
		for range maker.below(60) {
			keys = append(keys, maker.text(maker.below(9)))
		}
		filter := Make(keys...)
		for _, key := range keys {
			wantMay(t, filter, key, true)
		}
	}
}

func TestNoKeyOfManyIsMissed(t *testing.T) {
	keys := numbered("", 100000)
	filter := Make(keys...)
	for _, key := range keys {
		wantMay(t, filter, key, true)
	}
}

// P10.4

// inAllOrders: a list in each of its orders.
func inAllOrders(list []string, tell func([]string)) {
	var place func(done, rest []string)
	place = func(done, rest []string) {
		if len(rest) == 0 {
			tell(slices.Clone(done))
		}
		for i := range rest {
			left := slices.Delete(slices.Clone(rest), i, i+1)
			place(append(slices.Clone(done), rest[i]), left)
		}
	}
	place(nil, list)
}

func TestTheRowOfKeysDoesNotMatter(t *testing.T) {
	for _, list := range [][]string{{"a", "b"}, {"", "a", "\x00"}, {"a", "a", "b", "b"}, {"a", "b", "c", "d", "e", "f"}, {"a", "ab", "abc", "", "\xff", "\xff", "\x00"}} {
		want := filterByWords(list...)
		inAllOrders(list, func(keys []string) { wantFilter(t, want, keys...) })
	}
	keys := append(manyKeys(), manyKeys()[:50]...)
	want := Make(keys...)
	slices.Reverse(keys)
	wantFilter(t, want, keys...)
	slices.Sort(keys)
	wantFilter(t, want, keys...)
	maker := numberMaker(19)
	for range 20 {
		for i := range keys {
			j := maker.below(i + 1)
			keys[i], keys[j] = keys[j], keys[i]
		}
		wantFilter(t, want, keys...)
	}
}

// Keys that are handed in twice have their place in the size, and no bits beside those that they have there.
func TestKeysThatAreAlike(t *testing.T) {
	for _, key := range []string{"", "a", "b", "\x00", full(300)} {
		for n := 1; n < 130; n++ {
			size := sizeByWords(n)
			filter := Make(alike(key, n)...)
			if want := bytesOf(size, probesByWords(key, uint64(size)*8)...); filter != want {
				t.Errorf("Make of %d times %.20q: %x; want %x", n, key, filter, want)
			}
			if ones(filter) != 6 {
				t.Errorf("Make of %d times %.20q: %d ones", n, key, ones(filter))
			}
		}
	}
	once, twice := Make("a", "b", "c", "d"), Make("a", "b", "c", "d", "a", "b", "c", "d")
	if len(once) != 8 || len(twice) != 10 {
		t.Errorf("four keys: %d bytes; each twice: %d", len(once), len(twice))
	}
	wantFilter(t, Make("a", "a", "b"), "b", "a", "b")
}

func TestHowManyBitsAreOne(t *testing.T) {
	for n := range 300 {
		for _, keys := range [][]string{numbered("key", n), numbered("", n), alike("a", n), manyKeys()[:n]} {
			count := ones(Make(keys...))
			if count > 6*n {
				t.Errorf("Make of %d keys: %d ones", n, count)
			}
			if n > 0 && count < 6 {
				t.Errorf("Make of %d keys: %d ones, and each key has six", n, count)
			}
		}
	}
	if count := ones(Make(numbered("key", 100)...)); count != 467 {
		t.Errorf("Make of 100 keys: %d ones; want 467", count)
	}
}

// R3, R4

// shares: do two texts lie in the same memory?
func shares(a, b string) bool {
	if a == "" || b == "" {
		return false
	}
	x, y := uintptr(unsafe.Pointer(unsafe.StringData(a))), uintptr(unsafe.Pointer(unsafe.StringData(b)))
	return x < y+uintptr(len(b)) && y < x+uintptr(len(a))
}

func TestFiltersHaveMemoryOfTheirOwn(t *testing.T) {
	for _, keys := range [][]string{nil, {""}, {"a"}, numbered("key", 100), {noughts(8)}, {Make("a"), Make("b")}} {
		one, other := Make(keys...), Make(keys...)
		if one != other {
			t.Errorf("Make of %d keys, asked again: %x; ahead %x", len(keys), other, one)
		}
		if shares(one, other) {
			t.Errorf("Make of %d keys: two filters in one memory", len(keys))
		}
		for _, key := range keys {
			if shares(one, key) {
				t.Errorf("Make of %d keys: a filter in the memory of a key", len(keys))
			}
		}
	}
}

func TestWhatIsHandedInIsNotChanged(t *testing.T) {
	list := []string{"b", "a", "", "b", "spare", "room"}
	whole := slices.Clone(list)
	Make(list[:4]...)
	if !slices.Equal(list, whole) {
		t.Errorf("the keys are %q", list)
	}
	bytes := []byte("filterkeyspare")
	all := unsafe.String(&bytes[0], len(bytes))
	Hash(all[6:9])
	Make(all[6:9], all[9:])
	May(all[:6], all[6:9])
	if string(bytes) != "filterkeyspare" {
		t.Errorf("the bytes are %q", bytes)
	}
}

func TestWhatIsHandedInIsNotKept(t *testing.T) {
	bytes := []byte("keyother")
	all := unsafe.String(&bytes[0], len(bytes))
	list := []string{all[:3], all[3:]}
	filter := Make(list...)
	copy(bytes, "xyzspoil")
	list[0] = "b"
	if want := filterByWords("key", "other"); filter != want {
		t.Errorf("the filter is %x; want %x", filter, want)
	}
	wantFilter(t, filterByWords("b", "spoil"), list...)
	if got := Hash(all[:3]); got != hashByWords("xyz") {
		t.Errorf("Hash of other bytes at the same place: %#x", got)
	}
}

// What was asked ahead tells nothing of what is asked now.
func TestAnswersHangOnArgumentsAlone(t *testing.T) {
	filter := Make("a", "b")
	for range 3 {
		wantMay(t, filter, "a", true)
		wantMay(t, filter, "d", false)
		Make("d", "e")
		wantMay(t, Make("d"), "d", true)
		wantMay(t, Make("d"), "a", false)
		wantFilter(t, filter, "a", "b")
	}
}

func TestTheLimits(t *testing.T) {
	if api.FilterBits != 10 || api.Probes != 6 {
		t.Errorf("FilterBits %d, Probes %d", api.FilterBits, api.Probes)
	}
}
