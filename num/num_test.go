package num

import (
	"cmp"
	"encoding/hex"
	"math"
	"slices"
	"strings"
	"testing"

	"copyhold/api"
)

// bytesOf: the bytes that a hexadecimal text says.
func bytesOf(t *testing.T, digits string) string {
	t.Helper()
	b, err := hex.DecodeString(digits)
	if err != nil {
		t.Fatal(err)
	}
	return string(b)
}

// edges: numbers on both sides of 247 and of each power of 256, and the last one, in order.
func edges() []uint64 {
	ns := []uint64{0, 1, 2, 127, 128, 246, 247, 248, 249, 254}
	for k := 1; k < 8; k++ {
		power := uint64(1) << (8 * k)
		ns = append(ns, power-2, power-1, power, power+1, power+247, power+248, power<<7)
	}
	ns = append(ns, math.MaxInt64, math.MaxInt64+1, math.MaxUint64-1, math.MaxUint64)
	slices.Sort(ns)
	return slices.Compact(ns)
}

// lengths: lengths of texts on both sides of where their rows change.
func lengths() []int { return []int{0, 1, 2, 24, 246, 247, 248, 249, 255, 256, 257, 65535, 65536} }

func wantRow(t *testing.T, s string, n uint64, size int) {
	t.Helper()
	if gotN, gotSize, ok := ReadVar(s); gotN != n || gotSize != size || !ok {
		t.Errorf("ReadVar(%x): %d, %d, %v; want %d, %d, true", head(s), gotN, gotSize, ok, n, size)
	}
}

func wantNoRow(t *testing.T, s string) {
	t.Helper()
	if n, size, ok := ReadVar(s); n != 0 || size != 0 || ok {
		t.Errorf("ReadVar(%x): %d, %d, %v; want 0, 0, false", head(s), n, size, ok)
	}
}

func wantText(t *testing.T, s string, most int, text string, size int) {
	t.Helper()
	if got, gotSize, ok := ReadText(s, most); got != text || gotSize != size || !ok {
		t.Errorf("ReadText(%x, %d): %x, %d, %v; want %x, %d, true", head(s), most, head(got), gotSize, ok, head(text), size)
	}
}

func wantNoText(t *testing.T, s string, most int) {
	t.Helper()
	if got, size, ok := ReadText(s, most); got != "" || size != 0 || ok {
		t.Errorf("ReadText(%x, %d): %x, %d, %v; want nothing, 0, false", head(s), most, head(got), size, ok)
	}
}

// head: so much of a text as a failure needs to show.
func head(s string) string { return s[:min(len(s), 16)] }

// P1.1

func TestVarWritesRows(t *testing.T) {
	for _, x := range []struct {
		n   uint64
		row string
	}{
		{0, "00"}, {1, "01"}, {246, "f6"}, {247, "f7"},
		{248, "f8f8"}, {249, "f8f9"}, {255, "f8ff"},
		{256, "f90100"}, {258, "f90102"}, {1<<16 - 1, "f9ffff"},
		{1 << 16, "fa010000"}, {1<<24 - 1, "faffffff"},
		{1 << 24, "fb01000000"}, {1<<32 - 1, "fbffffffff"},
		{1 << 32, "fc0100000000"}, {1<<40 - 1, "fcffffffffff"},
		{1 << 40, "fd010000000000"}, {1<<48 - 1, "fdffffffffffff"},
		{1 << 48, "fe01000000000000"}, {1<<56 - 1, "feffffffffffffff"},
		{1 << 56, "ff0100000000000000"}, {0x0102030405060708, "ff0102030405060708"},
		{1<<63 - 1, "ff7fffffffffffffff"}, {1 << 63, "ff8000000000000000"},
		{1<<64 - 1, "ffffffffffffffffff"},
	} {
		row := bytesOf(t, x.row)
		if got := Var(x.n); got != row {
			t.Errorf("Var(%d): %x; want %s", x.n, got, x.row)
		}
		wantRow(t, row, x.n, len(row))
	}
}

func TestVarOfSome(t *testing.T) {
	for _, x := range []struct {
		ns   []uint64
		rows string
	}{
		{nil, ""},
		{[]uint64{}, ""},
		{[]uint64{7}, "07"},
		{[]uint64{0, 0}, "0000"},
		{[]uint64{0, 247, 248, 256, 1<<64 - 1}, "00f7f8f8f90100ffffffffffffffffff"},
		{[]uint64{256, 1, 255}, "f9010001f8ff"},
	} {
		if got := Var(x.ns...); got != bytesOf(t, x.rows) {
			t.Errorf("Var(%v): %x; want %s", x.ns, got, x.rows)
		}
	}
	if got := Var(); got != "" {
		t.Errorf("Var(): %x", got)
	}
}

func TestReadVarLeavesWhatStandsBehind(t *testing.T) {
	for _, n := range edges() {
		row := Var(n)
		for _, behind := range []string{"", "\x00", "\xff", "\xf8", "z", row, strings.Repeat("\xff", 20)} {
			wantRow(t, row+behind, n, len(row))
		}
	}
}

func TestReadVarOfNoRow(t *testing.T) {
	for _, digits := range []string{"", "f8f7", "f900ff", "f901", "f9", "ff00", "f800", "fa0000ff", "fa00ffff", "ff00ffffffffffffff", "ff0000000000000000"} {
		wantNoRow(t, bytesOf(t, digits))
	}
}

func TestReadVarOfRowCutShort(t *testing.T) {
	for _, n := range edges() {
		row := Var(n)
		for size := range len(row) {
			wantNoRow(t, row[:size])
		}
	}
}

func TestReadVarOfRowNotAsShortAsMayBe(t *testing.T) {
	for n := range 248 {
		wantNoRow(t, "\xf8"+string([]byte{byte(n)}))
		wantNoRow(t, "\xf8"+string([]byte{byte(n)})+"zzzzzzzz")
	}
	for _, n := range edges() {
		for width := max(1, len(Var(n))); width <= 8; width++ {
			digits, errno := Big(n, width)
			if errno != api.OK {
				t.Fatalf("Big(%d, %d): %d", n, width, errno)
			}
			wantNoRow(t, string([]byte{byte(247 + width)})+digits)
			wantNoRow(t, string([]byte{byte(247 + width)})+digits+"zzzzzzzz")
		}
	}
}

// P1.2

func TestBigWritesWidths(t *testing.T) {
	for _, x := range []struct {
		n     uint64
		width int
		row   string
	}{
		{258, 3, "000102"},
		{0, 1, "00"}, {0, 8, "0000000000000000"}, {7, 1, "07"}, {247, 1, "f7"}, {248, 1, "f8"}, {255, 1, "ff"},
		{255, 2, "00ff"}, {256, 2, "0100"}, {1<<16 - 1, 2, "ffff"},
		{0x0102030405060708, 8, "0102030405060708"},
		{1 << 63, 8, "8000000000000000"}, {1<<64 - 1, 8, "ffffffffffffffff"},
	} {
		row := bytesOf(t, x.row)
		if got, errno := Big(x.n, x.width); got != row || errno != api.OK {
			t.Errorf("Big(%d, %d): %x, %d; want %s", x.n, x.width, got, errno, x.row)
		}
		if n, ok := ReadBig(row, x.width); n != x.n || !ok {
			t.Errorf("ReadBig(%s, %d): %d, %v; want %d", x.row, x.width, n, ok, x.n)
		}
	}
}

func TestBigOfNumbersThatNeedMore(t *testing.T) {
	for width := 1; width < 8; width++ {
		power := uint64(1) << (8 * width)
		if got, errno := Big(power-1, width); got != strings.Repeat("\xff", width) || errno != api.OK {
			t.Errorf("Big(%d, %d): %x, %d", power-1, width, got, errno)
		}
		for _, n := range []uint64{power, power + 1, 2 * power, 1 << 63, math.MaxUint64} {
			if got, errno := Big(n, width); got != "" || errno != api.ErrLong {
				t.Errorf("Big(%d, %d): %x, %d; want ErrLong", n, width, got, errno)
			}
		}
	}
}

func wrongWidths() []int {
	return []int{0, -1, -8, 9, 10, 64, 256, 257, math.MaxInt32, math.MinInt32, math.MaxInt, math.MinInt}
}

// A number that no width of these could hold is no other error: ErrArg is named first.
func TestBigOfWrongWidths(t *testing.T) {
	for _, width := range wrongWidths() {
		for _, n := range []uint64{0, 1, 256, math.MaxUint64} {
			if got, errno := Big(n, width); got != "" || errno != api.ErrArg {
				t.Errorf("Big(%d, %d): %x, %d; want ErrArg", n, width, got, errno)
			}
		}
	}
}

func TestReadBigOfWrongWidths(t *testing.T) {
	for _, width := range wrongWidths() {
		for _, s := range []string{"", "\x01", "\x01\x02\x03\x04\x05\x06\x07\x08\x09\x0a\x0b"} {
			if n, ok := ReadBig(s, width); n != 0 || ok {
				t.Errorf("ReadBig(%x, %d): %d, %v", s, width, n, ok)
			}
		}
	}
}

func TestReadBigOfFirstBytes(t *testing.T) {
	const s = "\x01\x02\x03\x04\x05\x06\x07\x08\x09"
	want := uint64(0)
	for width := 1; width <= 8; width++ {
		want = want*256 + uint64(width)
		for size := range len(s) + 1 {
			n, ok := ReadBig(s[:size], width)
			if size < width && (n != 0 || ok) {
				t.Errorf("ReadBig(%x, %d): %d, %v; want 0, false", s[:size], width, n, ok)
			}
			if size >= width && (n != want || !ok) {
				t.Errorf("ReadBig(%x, %d): %d, %v; want %d, true", s[:size], width, n, ok, want)
			}
		}
	}
}

// P1.3

func TestTextWritesRows(t *testing.T) {
	for _, x := range []struct {
		ss   []string
		rows string
	}{
		{nil, ""},
		{[]string{}, ""},
		{[]string{""}, "\x00"},
		{[]string{"ab"}, "\x02ab"},
		{[]string{"ab", ""}, "\x02ab\x00"},
		{[]string{"", "", "\x00\xff"}, "\x00\x00\x02\x00\xff"},
		{[]string{"\xf8", "é"}, "\x01\xf8\x02\xc3\xa9"},
	} {
		if got := Text(x.ss...); got != x.rows {
			t.Errorf("Text(%q): %x; want %x", x.ss, got, x.rows)
		}
	}
	if got := Text(); got != "" {
		t.Errorf("Text(): %x", got)
	}
}

func TestTextOfLengths(t *testing.T) {
	for _, x := range []struct {
		length int
		row    string
	}{{247, "\xf7"}, {248, "\xf8\xf8"}, {255, "\xf8\xff"}, {256, "\xf9\x01\x00"}, {65535, "\xf9\xff\xff"}, {65536, "\xfa\x01\x00\x00"}} {
		text := strings.Repeat("q", x.length)
		row := x.row + text
		if got := Text(text); got != row {
			t.Errorf("Text of %d bytes: begins %x", x.length, head(got))
		}
		wantText(t, row, x.length, text, len(row))
	}
}

func TestReadTextAndMost(t *testing.T) {
	for _, length := range lengths() {
		text := strings.Repeat("a", length)
		row := Text(text)
		for _, most := range []int{length, length + 1, math.MaxInt} {
			wantText(t, row, most, text, len(row))
			wantText(t, row+"\xff", most, text, len(row))
		}
		for _, most := range []int{length - 1, -1, -length, math.MinInt32, math.MinInt} {
			if most < length {
				wantNoText(t, row, most)
				wantNoText(t, row+"a", most)
			}
		}
	}
}

func TestReadTextOfNoRow(t *testing.T) {
	for _, digits := range []string{
		"", "01", "0261", "f8", "f8f8", "f9", "f901", "f90100", // cut short
		"f80161", "f80261626364", "f90001616263", "ff000000000000000161", // a length that is not as short as may be
	} {
		for _, most := range []int{0, 1, 9, 1 << 20, math.MaxInt} {
			wantNoText(t, bytesOf(t, digits), most)
		}
	}
	for _, length := range lengths()[1:] {
		row := Text(strings.Repeat("a", length))
		for _, size := range []int{0, 1, len(row) / 2, len(row) - 1} {
			wantNoText(t, row[:size], math.MaxInt)
		}
	}
}

// Lengths that an int can't hold, or can't hold with what stands ahead.
func TestReadTextOfGreatLengths(t *testing.T) {
	for _, length := range []uint64{1 << 31, 1 << 32, 1<<32 + 1, math.MaxInt64 - 9, math.MaxInt64 - 8, math.MaxInt64, math.MaxInt64 + 1, math.MaxUint64 - 8, math.MaxUint64} {
		for _, most := range []int{math.MinInt, -1, 0, 1, math.MaxInt32, math.MaxInt} {
			wantNoText(t, Var(length)+"abc", most)
		}
	}
}

// P1.4

func TestRowsStandAsTheirNumbers(t *testing.T) {
	ns := edges()
	for n := range uint64(1000) {
		ns = append(ns, n)
	}
	for _, a := range ns {
		for _, b := range ns {
			rowA, rowB := Var(a), Var(b)
			if strings.Compare(rowA, rowB) != cmp.Compare(a, b) {
				t.Errorf("rows of %d and %d: %x, %x", a, b, rowA, rowB)
			}
			if a != b && strings.HasPrefix(rowB, rowA) {
				t.Errorf("the row of %d begins that of %d: %x, %x", a, b, rowA, rowB)
			}
		}
	}
}

// P1.5

func TestRowsOfNumbersAreReadAgain(t *testing.T) {
	ns := edges()
	for _, behind := range []string{"", "\x00", "\xff", "\xf8\x00", "behind"} {
		rest := Var(ns...) + behind
		for i, n := range ns {
			got, size, ok := ReadVar(rest)
			if got != n || !ok {
				t.Fatalf("number %d: %d, %v; want %d", i, got, ok, n)
			}
			rest = rest[size:]
		}
		if rest != behind {
			t.Errorf("behind the rows: %x; want %x", rest, behind)
		}
	}
}

func TestRowsOfTextsAreReadAgain(t *testing.T) {
	var ss []string
	for i, length := range lengths() {
		ss = append(ss, strings.Repeat(string([]byte{byte(240 + i)}), length))
	}
	ss = append(ss, Text(ss...), Var(edges()...), "")
	for _, behind := range []string{"", "\x00", "\xff", "\xf8\x00", "behind"} {
		rest := Text(ss...) + behind
		for i, s := range ss {
			got, size, ok := ReadText(rest, len(s))
			if got != s || !ok {
				t.Fatalf("text %d: %d bytes, %v; want %d", i, len(got), ok, len(s))
			}
			rest = rest[size:]
		}
		if rest != behind {
			t.Errorf("behind the rows: %x; want %x", rest, behind)
		}
	}
}

func TestRowsOfWidthsAreReadAgain(t *testing.T) {
	for _, n := range edges() {
		for width := 1; width <= 8; width++ {
			row, errno := Big(n, width)
			if errno != api.OK {
				continue
			}
			if got, ok := ReadBig(row+"\xff\x00", width); got != n || !ok || len(row) != width {
				t.Errorf("Big(%d, %d): %x, read as %d, %v", n, width, row, got, ok)
			}
		}
	}
}

// Every text of two bytes, with all kinds of bytes behind it, and every beginning of these.
func TestWhatIsReadIsPutAgain(t *testing.T) {
	for _, behind := range []string{"\x00", "\x01", "\xf7", "\xf8", "\xff", "\x00\x00\x00\x00\x00\x00\x00\x00", "\xff\xff\xff\xff\xff\xff\xff\xff"} {
		for n := range 1 << 16 {
			s := string([]byte{byte(n >> 8), byte(n)}) + behind
			for size := range len(s) + 1 {
				putAgain(t, s[:size])
			}
		}
	}
}

func putAgain(t *testing.T, s string) {
	t.Helper()
	if n, size, ok := ReadVar(s); ok && Var(n) != s[:size] {
		t.Fatalf("ReadVar(%x): %d, %d; put again %x", s, n, size, Var(n))
	}
	if text, size, ok := ReadText(s, len(s)); ok && Text(text) != s[:size] {
		t.Fatalf("ReadText(%x): %x, %d; put again %x", s, text, size, Text(text))
	}
	for width := 1; width <= len(s) && width <= 8; width++ {
		n, ok := ReadBig(s, width)
		if !ok {
			t.Fatalf("ReadBig(%x, %d): false", s, width)
		}
		if row, errno := Big(n, width); row != s[:width] || errno != api.OK {
			t.Fatalf("ReadBig(%x, %d): %d; put again %x, %d", s, width, n, row, errno)
		}
	}
}

// R4

func TestListsHandedInStayAsTheyWere(t *testing.T) {
	ns := []uint64{5, 300, 1 << 40, 77, 78}
	ss := []string{"a", "bc", "", "spare", "room"}
	for range 2 {
		if got := Var(ns[:3]...); got != "\x05\xf9\x01\x2c\xfd\x01\x00\x00\x00\x00\x00" {
			t.Errorf("Var: %x", got)
		}
		if got := Text(ss[:3]...); got != "\x01a\x02bc\x00" {
			t.Errorf("Text: %x", got)
		}
	}
	if !slices.Equal(ns, []uint64{5, 300, 1 << 40, 77, 78}) || !slices.Equal(ss, []string{"a", "bc", "", "spare", "room"}) {
		t.Errorf("changed: %v, %q", ns, ss)
	}
}
