package okey

import (
	"cmp"
	"encoding/hex"
	"math"
	"slices"
	"strings"
	"testing"
)

// bytesOf: the bytes that a hexadecimal text says.
func bytesOf(t *testing.T, digits string) string {
	t.Helper()
	b, err := hex.DecodeString(strings.ReplaceAll(digits, " ", ""))
	if err != nil {
		t.Fatal(err)
	}
	return string(b)
}

// list: parts as a list, for short tables.
func list(parts ...Part) []Part { return parts }

// numbers: on both sides of 247 and of each power of 256, and the last one, in order.
func numbers() []uint64 {
	ns := []uint64{0, 1, 2, 3, 5, 127, 128, 246, 247, 248, 249, 254}
	for k := 1; k < 8; k++ {
		power := uint64(1) << (8 * k)
		ns = append(ns, power-1, power, power+1)
	}
	return append(ns, math.MaxInt64, math.MaxInt64+1, math.MaxUint64-1, math.MaxUint64)
}

// wordsOf: all texts of these bytes with so many bytes at most, in order.
func wordsOf(letters string, most int) []string {
	words := []string{""}
	if most == 0 {
		return words
	}
	for i := range len(letters) {
		for _, word := range wordsOf(letters, most-1) {
			words = append(words, letters[i:i+1]+word)
		}
	}
	return words
}

// texts: empty, bytes 0, 1, 255 in any order, ends in a byte 0, and the marks of parts, in order.
func texts() []string {
	ss := wordsOf("\x00\x01\xff", 3)
	ss = append(ss, "\x02", "\x03", "a", "a\x00", "a\x00\x00", "a\x00b", "a\x01", "ab", "b", "\xf8", "\x00\x01\x02", "\x02\x00\x01", "é",
		strings.Repeat("\x00", 300), strings.Repeat("\xff", 300))
	slices.Sort(ss)
	return slices.Compact(ss)
}

// partsInOrder: the numbers, and behind them the texts.
func partsInOrder() []Part {
	var parts []Part
	for _, n := range numbers() {
		parts = append(parts, Num(n))
	}
	for _, s := range texts() {
		parts = append(parts, Str(s))
	}
	return parts
}

// listsInOrder: the lists of these parts (which stand in order) with so many at most, each ahead of those that it begins.
func listsInOrder(parts []Part, most int) [][]Part {
	lists := [][]Part{nil}
	if most == 0 {
		return lists
	}
	shorter := listsInOrder(parts, most-1)
	for _, part := range parts {
		for _, rest := range shorter {
			lists = append(lists, append([]Part{part}, rest...))
		}
	}
	return lists
}

// fewParts: such as are near one another in bytes, in order.
func fewParts() []Part {
	return []Part{Num(0), Num(1), Num(2), Num(247), Num(248), Num(256), Num(math.MaxUint64),
		Str(""), Str("\x00"), Str("\x00\x00"), Str("\x00\x01"), Str("\x00\xff"), Str("\x01"), Str("\x01\x00"), Str("\x02"), Str("\xff"), Str("\xff\x00"), Str("\xff\xff")}
}

func beginsWith(long, short []Part) bool {
	return len(short) <= len(long) && slices.Equal(long[:len(short)], short)
}

func wantParts(t *testing.T, key string, want []Part) {
	t.Helper()
	if got, ok := Parts(key); !slices.Equal(got, want) || !ok {
		t.Errorf("Parts(%x): %+v, %v; want %+v, true", key, got, ok, want)
	}
}

func wantNoParts(t *testing.T, key string) {
	t.Helper()
	if got, ok := Parts(key); len(got) != 0 || ok {
		t.Errorf("Parts(%x): %+v, %v; want none, false", key, got, ok)
	}
}

// P2.1

func TestNumAndStrWithNothingElse(t *testing.T) {
	for _, n := range numbers() {
		if got := Num(n); got != (Part{Text: false, S: "", N: n}) {
			t.Errorf("Num(%d): %v", n, got)
		}
	}
	for _, s := range texts() {
		if got := Str(s); got != (Part{Text: true, S: s, N: 0}) {
			t.Errorf("Str(%x): %v", s, got)
		}
	}
}

func TestKeysAsTheirBytes(t *testing.T) {
	for _, x := range []struct {
		parts []Part
		key   string
	}{
		{nil, ""},
		{list(), ""},
		{list(Num(5), Str("a\x00b")), "01 05 02 61 00ff 62 0001"},
		{list(Num(0)), "01 00"}, {list(Num(1)), "01 01"}, {list(Num(2)), "01 02"},
		{list(Num(246)), "01 f6"}, {list(Num(247)), "01 f7"}, {list(Num(248)), "01 f8f8"}, {list(Num(255)), "01 f8ff"},
		{list(Num(256)), "01 f90100"}, {list(Num(1<<16 - 1)), "01 f9ffff"}, {list(Num(1 << 16)), "01 fa010000"},
		{list(Num(1<<56 - 1)), "01 feffffffffffffff"}, {list(Num(1 << 56)), "01 ff0100000000000000"},
		{list(Num(math.MaxUint64)), "01 ffffffffffffffffff"},
		{list(Str("")), "02 0001"}, {list(Str("a")), "02 61 0001"},
		{list(Str("\x00")), "02 00ff 0001"}, {list(Str("\x00\x00")), "02 00ff00ff 0001"},
		{list(Str("\x01")), "02 01 0001"}, {list(Str("\xff")), "02 ff 0001"},
		{list(Str("\x00\x01")), "02 00ff01 0001"}, {list(Str("\x00\xff")), "02 00ffff 0001"},
		{list(Str("\xff\x00")), "02 ff00ff 0001"}, {list(Str("\x01\x00")), "02 0100ff 0001"},
		{list(Str("a\x00")), "02 6100ff 0001"},
		{list(Str("\x00\x01\xff\x00")), "02 00ff01ff00ff 0001"},
		{list(Num(0), Num(0)), "01 00 01 00"},
		{list(Str(""), Str("")), "02 0001 02 0001"},
		{list(Num(1), Num(256), Str("\x02"), Num(2), Str("")), "01 01 01 f90100 02 02 0001 01 02 02 0001"},
	} {
		key := bytesOf(t, x.key)
		if got := Key(x.parts...); got != key {
			t.Errorf("Key(%+v): %x; want %s", x.parts, got, x.key)
		}
		wantParts(t, key, x.parts)
	}
	if got := Key(); got != "" {
		t.Errorf("Key(): %x", got)
	}
}

func TestPartsAreReadAgain(t *testing.T) {
	all := partsInOrder()
	wantParts(t, Key(all...), all)
	for _, part := range all {
		wantParts(t, Key(part), list(part))
	}
	for _, parts := range listsInOrder(fewParts(), 3) {
		wantParts(t, Key(parts...), parts)
	}
}

// What a part is not is no matter: neither in its key, nor when it is held against another one.
func TestWhatAPartIsNotIsNoMatter(t *testing.T) {
	for _, n := range numbers() {
		odd := Part{N: n, S: "spare\x00"}
		if got := Key(odd); got != Key(Num(n)) {
			t.Errorf("Key of %d with a text: %x", n, got)
		}
		wantParts(t, Key(odd), list(Num(n)))
		wantSame(t, odd, Num(n))
		wantSame(t, odd, Part{N: n, S: "other"})
	}
	for _, s := range texts() {
		odd := Part{Text: true, S: s, N: 77}
		if got := Key(odd); got != Key(Str(s)) {
			t.Errorf("Key of %x with a number: %x", s, got)
		}
		wantParts(t, Key(odd), list(Str(s)))
		wantSame(t, odd, Str(s))
		wantSame(t, odd, Part{Text: true, S: s, N: math.MaxUint64})
	}
	if got := Compare(list(Part{N: 1, S: "b"}), list(Part{N: 2, S: "a"})); got != -1 {
		t.Errorf("numbers with texts: %d", got)
	}
	if got := Compare(list(Part{Text: true, S: "a", N: 2}), list(Part{Text: true, S: "b", N: 1})); got != -1 {
		t.Errorf("texts with numbers: %d", got)
	}
	if got := Compare(list(Part{N: 9, S: "z"}), list(Part{Text: true, S: "a", N: 1})); got != -1 {
		t.Errorf("a number with a text, a text with a number: %d", got)
	}
}

func wantSame(t *testing.T, a, b Part) {
	t.Helper()
	if got := Compare(list(a), list(b)); got != 0 {
		t.Errorf("Compare(%+v, %+v): %d; want 0", a, b, got)
	}
	if fromA, toA := Range(a); fromA != Key(b) || toA != Key(b)+"\x03" {
		t.Errorf("Range(%+v): %x, %x", a, fromA, toA)
	}
}

func TestTextsThatAreNoKey(t *testing.T) {
	for _, digits := range []string{
		"01", "0261", "020002", "03", // of the chapter
		"02", "0200", "0200ff", "0200ff00", "026100", "02ff", "0201", // cut short
		"00", "0001", "04", "05", "61", "f8", "ff", // no part begins so
		"020000", "020000ff0001", "0200fe0001", "0200000001", "02610003", // 0 with neither 255 nor 1 behind it
		"01f800", "01f8f7", "01f900ff", "01fa00ffff", "01ff00ffffffffffffff", "01f8", "01f901", "01ffffffffffffffff", // no row, or none as short as may be
	} {
		wantNoParts(t, bytesOf(t, digits))
		wantNoParts(t, Key(Num(7), Str("a"))+bytesOf(t, digits))
	}
}

func TestEveryByteThatBeginsNoPart(t *testing.T) {
	for b := range 256 {
		if b == 1 || b == 2 {
			continue
		}
		mark := string([]byte{byte(b)})
		for _, key := range []string{mark, mark + "\x05", mark + "\x00\x01", mark + "a\x00\x01"} {
			wantNoParts(t, key)
			wantNoParts(t, "\x01\x05"+key)
			wantNoParts(t, "\x02\x00\x01"+key)
		}
	}
}

func TestEveryByteBehindAZero(t *testing.T) {
	for b := range 256 {
		head := "\x02a\x00" + string([]byte{byte(b)})
		switch b {
		case 1:
			wantParts(t, head, list(Str("a")))
			wantNoParts(t, head+"\x00\x01")
		case 255:
			wantParts(t, head+"\x00\x01", list(Str("a\x00")))
			wantNoParts(t, head)
		default:
			wantNoParts(t, head)
			wantNoParts(t, head+"\x00\x01")
		}
	}
}

func TestKeysCutShort(t *testing.T) {
	for _, parts := range listsInOrder(append(fewParts(), Str("abc"), Str("a\x00b")), 2) {
		key := Key(parts...)
		whole := 0
		for size := range len(key) {
			if whole < len(parts) && size == len(Key(parts[:whole]...)) {
				wantParts(t, key[:size], parts[:whole])
				whole++
				continue
			}
			wantNoParts(t, key[:size])
		}
	}
}

func TestKeysWithMoreBehind(t *testing.T) {
	for _, part := range partsInOrder() {
		for _, behind := range []string{"\x00", "\x03", "\xff", "\x00\x01", "\x01", "\x02", "a"} {
			wantNoParts(t, Key(part)+behind)
		}
	}
}

// P2.2

func TestCompareOfExamples(t *testing.T) {
	for _, x := range []struct {
		a, b []Part
		want int
	}{
		{list(Num(5)), list(Num(5), Str("a")), -1},
		{list(Str("a")), list(Num(5)), 1},
		{list(Str("a")), list(Str("a\x00")), -1},
		{nil, nil, 0}, {nil, list(), 0}, {list(), nil, 0},
		{nil, list(Num(0)), -1}, {list(Str("")), nil, 1},
		{list(Num(math.MaxUint64)), list(Str("")), -1},
		{list(Num(1 << 63)), list(Num(1)), 1}, // numbers have no sign
		{list(Num(0)), list(Num(math.MaxUint64)), -1},
		{list(Str("\x80")), list(Str("\x7f")), 1},
		{list(Str("Z")), list(Str("a")), -1},
		{list(Num(1), Num(9)), list(Num(2)), -1},
		{list(Num(2)), list(Num(1), Num(9)), 1},
		{list(Str("a"), Str("b")), list(Str("ab")), -1},
		{list(Num(1), Str("a"), Num(3)), list(Num(1), Str("a"), Num(3)), 0},
		{list(Num(1), Str("a"), Num(3)), list(Num(1), Str("a"), Str("")), -1},
		{list(Num(1), Str("b"), Num(3)), list(Num(1), Str("a"), Num(4)), 1},
	} {
		if got := Compare(x.a, x.b); got != x.want {
			t.Errorf("Compare(%+v, %+v): %d; want %d", x.a, x.b, got, x.want)
		}
		if got := Compare(x.b, x.a); got != -x.want {
			t.Errorf("Compare(%+v, %+v): %d; want %d", x.b, x.a, got, -x.want)
		}
	}
}

func TestRangeOfExamples(t *testing.T) {
	for _, x := range []struct {
		parts    []Part
		from, to string
	}{
		{list(Num(7)), "0107", "010703"},
		{nil, "", "03"},
		{list(Str("")), "020001", "02000103"},
		{list(Num(256), Str("a\x00")), "01f90100 026100ff0001", "01f90100 026100ff000103"},
	} {
		from, to := Range(x.parts...)
		if from != bytesOf(t, x.from) || to != bytesOf(t, x.to) {
			t.Errorf("Range(%+v): %x, %x; want %s, %s", x.parts, from, to, x.from, x.to)
		}
	}
	if from, to := Range(); from != "" || to != "\x03" {
		t.Errorf("Range(): %x, %x", from, to)
	}
}

func TestWhichKeysLieInARange(t *testing.T) {
	lists := listsInOrder(fewParts(), 3)
	for _, parts := range listsInOrder(fewParts(), 2) {
		from, to := Range(parts...)
		for _, other := range lists {
			key := Key(other...)
			if in := from <= key && key < to; in != beginsWith(other, parts) {
				t.Fatalf("%+v in the range of %+v: %v", other, parts, in)
			}
		}
	}
}

func TestWhatLiesJustOutsideOfARange(t *testing.T) {
	for _, x := range []struct {
		parts, other []Part
		in           bool
	}{
		{list(Num(7)), list(Num(7)), true},
		{list(Num(7)), list(Num(7), Num(0)), true},
		{list(Num(7)), list(Num(7), Str(strings.Repeat("\xff", 64)), Str("\xff")), true},
		{list(Num(7)), list(Num(6), Str(strings.Repeat("\xff", 64))), false},
		{list(Num(7)), list(Num(8)), false},
		{list(Num(7)), nil, false},
		{list(Num(247)), list(Num(248)), false},
		{list(Num(255)), list(Num(256)), false},
		{list(Num(math.MaxUint64)), list(Str("")), false},
		{list(Num(math.MaxUint64)), list(Num(math.MaxUint64), Str("\xff")), true},
		{list(Str("a")), list(Str("a\x00")), false}, // a text that begins so is no list that does
		{list(Str("a")), list(Str("a\x00"), Num(0)), false},
		{list(Str("a")), list(Str("a"), Str("\xff\xff")), true},
		{list(Str("a")), list(Str(""), Num(math.MaxUint64)), false},
		{list(Str("a")), list(Str("`\xff\xff")), false},
		{list(Str("a")), list(Num(5), Str("a")), false},
		{nil, nil, true},
		{nil, list(Num(0)), true},
		{nil, list(Str(strings.Repeat("\xff", 64))), true},
	} {
		from, to := Range(x.parts...)
		key := Key(x.other...)
		if in := from <= key && key < to; in != x.in {
			t.Errorf("%+v in the range of %+v: %v; want %v", x.other, x.parts, in, x.in)
		}
	}
}

// P2.3

func TestPartsStandInOrder(t *testing.T) {
	wantInOrder(t, listsInOrder(partsInOrder(), 1))
}

func TestListsStandInOrder(t *testing.T) {
	wantInOrder(t, listsInOrder(fewParts(), 2))
}

// wantInOrder: each of these lists against each, by Compare and by their keys.
func wantInOrder(t *testing.T, lists [][]Part) {
	t.Helper()
	var keys []string
	for _, parts := range lists {
		keys = append(keys, Key(parts...))
	}
	for i, a := range lists {
		for k, b := range lists {
			want := cmp.Compare(i, k)
			if got := Compare(a, b); got != want {
				t.Fatalf("Compare(%+v, %+v): %d; want %d", a, b, got, want)
			}
			if got := strings.Compare(keys[i], keys[k]); got != want {
				t.Fatalf("keys of %+v, %+v: %x, %x; want %d", a, b, keys[i], keys[k], want)
			}
		}
	}
}

// P2.4

func TestNoKeyBeginsAnotherUnlessItsListDoes(t *testing.T) {
	lists := listsInOrder(fewParts(), 2)
	for _, a := range lists {
		for _, b := range lists {
			if begins := strings.HasPrefix(Key(b...), Key(a...)); begins != beginsWith(b, a) {
				t.Fatalf("the key of %+v begins that of %+v: %v", a, b, begins)
			}
		}
	}
}

// Of all texts of these few bytes just those are keys that the lists with so short keys have, and each is one list's.
func TestEachKeyHasOneList(t *testing.T) {
	const letters = "\x00\x01\x02\x05\xf8\xff"
	const most = 7
	listOf := map[string]int{}
	lists := shortLists(letters, most)
	for i, parts := range lists {
		key := Key(parts...)
		if k, there := listOf[key]; there {
			t.Fatalf("%x is the key of %+v and of %+v", key, lists[k], parts)
		}
		listOf[key] = i
	}
	found := 0
	for _, key := range wordsOf(letters, most) {
		i, there := listOf[key]
		got, ok := Parts(key)
		if ok != there || there && !slices.Equal(got, lists[i]) || !there && len(got) != 0 {
			t.Fatalf("Parts(%x): %+v, %v", key, got, ok)
		}
		if there {
			found++
			if Key(got...) != key {
				t.Fatalf("Parts(%x), put again: %x", key, Key(got...))
			}
		}
	}
	if found != len(lists) {
		t.Errorf("%d keys of %d lists", found, len(lists))
	}
}

// shortLists: the lists whose keys have only these bytes, and so many at most; the sizes are reckoned here, not asked of Key.
func shortLists(letters string, most int) [][]Part {
	lists := [][]Part{nil}
	put := func(part Part, size int) {
		if size > most {
			return
		}
		for _, rest := range shortLists(letters, most-size) {
			lists = append(lists, append([]Part{part}, rest...))
		}
	}
	for _, n := range []uint64{0, 1, 2, 5} {
		put(Num(n), 2)
	}
	for _, n := range []uint64{0xf8, 0xff} {
		put(Num(n), 3)
	}
	for _, s := range wordsOf(letters, max(0, most-3)) {
		put(Str(s), 3+len(s)+strings.Count(s, "\x00"))
	}
	return lists
}

// R4

func TestListsHandedInStayAsTheyWere(t *testing.T) {
	was := list(Num(5), Str("a\x00"), Part{N: 3, S: "odd"}, Part{Text: true, S: "b", N: 4}, Str("spare"), Num(6))
	parts := slices.Clone(was)
	key := Key(parts[:4]...)
	from, to := Range(parts[:4]...)
	if from != key || to != key+"\x03" || Compare(parts[:4], parts[:4:4]) != 0 || Key(parts[:4]...) != key {
		t.Errorf("Key %x, Range %x, %x", key, from, to)
	}
	if !slices.Equal(parts, was) {
		t.Errorf("changed: %+v", parts)
	}
}

func TestPartsAnswersNewMemory(t *testing.T) {
	key := Key(Num(5), Str("a"))
	first, _ := Parts(key)
	second, _ := Parts(key)
	first[0], first[1] = Str("other"), Num(9)
	if !slices.Equal(second, list(Num(5), Str("a"))) {
		t.Errorf("changed: %+v", second)
	}
}
