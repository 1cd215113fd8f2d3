package cell

import (
	"encoding/binary"
	"encoding/hex"
	"hash/crc32"
	"math"
	"slices"
	"strings"
	"testing"

	"copyhold/api"
)

// letters: a text of so many bytes, no two of which side by side are alike, and none a nought.
func letters(size int) string {
	b := make([]byte, size)
	for i := range b {
		b[i] = byte('a' + i%26)
	}
	return string(b)
}

// noughts: so many bytes 0.
func noughts(size int) string { return strings.Repeat("\x00", size) }

// numberMaker: numbers that look like chance, the same ones in each run.
type numberMaker uint64

func (m *numberMaker) next() uint32 {
	*m = *m*6364136223846793005 + 1442695040888963407
	return uint32(*m >> 32)
}

// sealed: 28 bytes, and the library's sum of them, the lowest byte first.
func sealed(head string) string {
	return string(binary.LittleEndian.AppendUint32([]byte(head), crc32.ChecksumIEEE([]byte(head))))
}

// headOf: the 28 bytes ahead of a cell's sum, as the chapter's words put them.
func headOf(c Cell) string {
	mark := byte(0x40)
	if c.First {
		mark += 1
	}
	if c.Last {
		mark += 2
	}
	head := string([]byte{mark, byte(len(c.Data)), byte(c.Number % 256), byte(c.Number / 256)})
	return head + c.Data + noughts(24-len(c.Data))
}

// cellsThatMayBe: of each kind, on the inner side of each limit.
func cellsThatMayBe() []Cell {
	room := letters(24)
	return []Cell{
		{First: true, Last: true},
		{First: true, Last: true, Data: "a"},
		{First: true, Last: true, Data: "\x00"},
		{First: true, Last: true, Data: "ab"},
		{First: true, Last: true, Data: letters(23)},
		{First: true, Last: true, Data: room},
		{First: true, Last: true, Data: noughts(24)},
		{First: true, Data: room},
		{First: true, Data: noughts(24)},
		{First: true, Data: strings.Repeat("\xff", 24)},
		{Number: 1, Data: room},
		{Number: 255, Data: room},
		{Number: 256, Data: room},
		{Number: 258, Data: room},
		{Number: 65534, Data: room},
		{Number: 65535, Data: room},
		{Last: true, Number: 1, Data: "a"},
		{Last: true, Number: 1, Data: "\x00"},
		{Last: true, Number: 1, Data: "\x00\x00"},
		{Last: true, Number: 1, Data: letters(23)},
		{Last: true, Number: 1, Data: room},
		{Last: true, Number: 65535, Data: "a"},
		{Last: true, Number: 65535, Data: letters(23)},
		{Last: true, Number: 65535, Data: room},
	}
}

func made(t *testing.T, c Cell) string {
	t.Helper()
	row, errno := Make(c)
	if errno != api.OK {
		t.Fatalf("Make(%+v): %d; want bytes", c, errno)
	}
	return row
}

func wantNotMade(t *testing.T, c Cell) {
	t.Helper()
	if row, errno := Make(c); row != "" || errno != api.ErrArg {
		t.Errorf("Make(%+v): %x, %d; want none, ErrArg", c, row, errno)
	}
}

func wantCell(t *testing.T, row string, want Cell) {
	t.Helper()
	if got, ok := Read(row); got != want || !ok {
		t.Errorf("Read(%x): %+v, %v; want %+v, true", row, got, ok, want)
	}
}

func wantNoCell(t *testing.T, row string) {
	t.Helper()
	if got, ok := Read(row); got != (Cell{}) || ok {
		t.Errorf("Read(%x): %+v, %v; want none, false", row, got, ok)
	}
}

// P3.1

func TestSumsThatAreKnown(t *testing.T) {
	for _, x := range []struct {
		parts []string
		sum   uint32
	}{
		{nil, 0},
		{[]string{}, 0},
		{[]string{""}, 0},
		{[]string{"", "", ""}, 0},
		{[]string{"123456789"}, 0xcbf43926},
		{[]string{"1234", "56789"}, 0xcbf43926},
		{[]string{"", "1", "2345678", "", "9", ""}, 0xcbf43926},
		{[]string{"a"}, 0xe8b7be43},
		{[]string{"abc"}, 0x352441c2},
		{[]string{"\x00"}, 0xd202ef8d},
		{[]string{"\xff"}, 0xff000000},
		{[]string{noughts(4)}, 0x2144df1c},
		{[]string{"\xff\xff\xff\xff"}, 0xffffffff},
		{[]string{noughts(32)}, 0x190a55ad},
		{[]string{strings.Repeat("\xff", 32)}, 0xff6cab0b},
		{[]string{"The quick brown fox jumps over the lazy dog"}, 0x414fa339},
	} {
		if got := Crc(x.parts...); got != x.sum {
			t.Errorf("Crc(%q): %#x; want %#x", x.parts, got, x.sum)
		}
	}
	if got := Crc(); got != 0 {
		t.Errorf("Crc(): %#x", got)
	}
}

// textsToSum: each byte alone and behind another, lengths up to some, and such as look like chance.
func textsToSum() []string {
	texts := []string{""}
	for b := range 256 {
		texts = append(texts, string([]byte{byte(b)}), string([]byte{0x5a, byte(b)}))
	}
	for size := range 40 {
		texts = append(texts, letters(size), noughts(size), strings.Repeat("\xff", size))
	}
	maker := numberMaker(3)
	for size := range 80 {
		b := make([]byte, size)
		for i := range b {
			b[i] = byte(maker.next())
		}
		texts = append(texts, string(b))
	}
	return append(texts, "é", "\xff\xfe", letters(65536), letters(1<<20))
}

func TestSumsAreTheLibrarys(t *testing.T) {
	for _, s := range textsToSum() {
		want := crc32.ChecksumIEEE([]byte(s))
		if got := Crc(s); got != want {
			t.Errorf("Crc of %d bytes, %.80q: %#x; want %#x", len(s), s, got, want)
		}
	}
}

func TestSumsOfTextsThatAreCut(t *testing.T) {
	for _, s := range textsToSum() {
		if len(s) > 64 {
			continue
		}
		want := crc32.ChecksumIEEE([]byte(s))
		for i := range len(s) + 1 {
			if got := Crc(s[:i], s[i:]); got != want {
				t.Errorf("Crc of %q, cut at %d: %#x; want %#x", s, i, got, want)
			}
			for j := i; j <= len(s); j++ {
				if got := Crc(s[:i], s[i:j], s[j:]); got != want {
					t.Errorf("Crc of %q, cut at %d and %d: %#x; want %#x", s, i, j, got, want)
				}
			}
		}
		if got := Crc(strings.Split(s, "")...); got != want {
			t.Errorf("Crc of %q, piece by piece: %#x; want %#x", s, got, want)
		}
	}
}

func TestSumsHangOnTheOrder(t *testing.T) {
	if Crc("ab", "c") == Crc("c", "ab") {
		t.Errorf("abc and cab have one sum")
	}
}

// P3.2

func TestCellsAsTheirBytes(t *testing.T) {
	room := letters(24)
	for _, x := range []struct {
		cell Cell
		head string
	}{
		{Cell{First: true, Last: true, Data: "ab"}, "\x43\x02\x00\x00ab" + noughts(22)},
		{Cell{First: true, Last: true}, "\x43" + noughts(27)},
		{Cell{Number: 258, Data: room}, "\x40\x18\x02\x01" + room},
		{Cell{First: true, Data: room}, "\x41\x18\x00\x00" + room},
		{Cell{First: true, Last: true, Data: room}, "\x43\x18\x00\x00" + room},
		{Cell{Last: true, Number: 1, Data: "\x00"}, "\x42\x01\x01\x00" + noughts(24)},
		{Cell{Last: true, Number: 65535, Data: room[:23]}, "\x42\x17\xff\xff" + room[:23] + "\x00"},
		{Cell{Last: true, Number: 65280, Data: room}, "\x42\x18\x00\xff" + room},
	} {
		row := sealed(x.head)
		if got, errno := Make(x.cell); got != row || errno != api.OK {
			t.Errorf("Make(%+v): %x, %d; want %x", x.cell, got, errno, row)
		}
		wantCell(t, row, x.cell)
	}
	for _, c := range cellsThatMayBe() {
		if got := made(t, c); got != sealed(headOf(c)) {
			t.Errorf("Make(%+v): %x; want %x", c, got, sealed(headOf(c)))
		}
	}
}

// Bytes that are written out, so that nothing is left to a sum that two agree on.
func TestACellWrittenOut(t *testing.T) {
	for digits, c := range map[string]Cell{
		"43" + strings.Repeat("00", 27) + "8e37d1ef":           {First: true, Last: true},
		"430200006162" + strings.Repeat("00", 22) + "a5a65f81": {First: true, Last: true, Data: "ab"},
	} {
		row, err := hex.DecodeString(digits)
		if err != nil {
			t.Fatal(err)
		}
		if got := made(t, c); got != string(row) {
			t.Errorf("Make(%+v): %x; want %s", c, got, digits)
		}
		wantCell(t, string(row), c)
	}
}

func TestCellsThatMayNotBe(t *testing.T) {
	room := letters(24)
	for _, c := range []Cell{
		{First: true, Data: "ab"}, {Last: true, Data: "ab"}, {Last: true, Number: 3}, {First: true, Last: true, Data: letters(25)}, // of the chapter
		{}, {First: true}, {Last: true}, {Number: 1}, {Data: room}, {Last: true, Data: room}, // nought, but not the First
		{First: true, Number: 1, Data: room}, {First: true, Last: true, Number: 1}, {First: true, Last: true, Number: 65535, Data: "a"}, {First: true, Number: -1, Data: room}, // the First, but not nought
		{First: true, Data: letters(23)}, {Number: 1, Data: letters(23)}, {Number: 65535, Data: "a"}, // short, but not the Last
		{First: true, Data: letters(25)}, {Number: 1, Data: letters(25)}, {Last: true, Number: 1, Data: letters(25)}, // too long
		{First: true, Last: true, Data: letters(256)}, {First: true, Last: true, Data: letters(258)}, {Number: 1, Data: letters(256 + 24)}, {First: true, Last: true, Data: letters(1 << 20)}, // a length that a byte cuts
		{Last: true, Number: 1}, {Last: true, Number: 65535}, {Number: 65535}, // none, but not First and Last
	} {
		wantNotMade(t, c)
	}
	for _, n := range []int{-1, -2, -255, -256, -65535, -65536, math.MinInt, math.MinInt + 1, 65536, 65537, 131071, 131072, 1 << 31, 1<<32 + 1, math.MaxInt} {
		for _, data := range []string{"", "a", room} {
			for flags := range 4 {
				wantNotMade(t, Cell{First: flags&1 != 0, Last: flags&2 != 0, Number: n, Data: data})
			}
		}
	}
}

// Both sides of each limit, with each other.
func TestWhichCellsMayBe(t *testing.T) {
	for _, n := range []int{-1, 0, 1, 2, 255, 256, 65534, 65535, 65536} {
		for size := range 27 {
			for flags := range 4 {
				c := Cell{First: flags&1 != 0, Last: flags&2 != 0, Number: n, Data: letters(size)}
				may := n >= 0 && n <= 65535 && c.First == (n == 0) && size <= 24
				if size < 24 {
					may = may && c.Last
				}
				if size == 0 {
					may = may && c.First && c.Last
				}
				if !may {
					wantNotMade(t, c)
					continue
				}
				row := made(t, c)
				if row != sealed(headOf(c)) {
					t.Errorf("Make(%+v): %x", c, row)
				}
				wantCell(t, row, c)
			}
		}
	}
}

func TestTextsThatAreNoCell(t *testing.T) {
	for _, s := range []string{"", "\x43", noughts(28), noughts(31), noughts(32), noughts(33), letters(32), strings.Repeat("\xff", 32), strings.Repeat("@", 32), letters(1 << 20)} {
		wantNoCell(t, s)
	}
}

func TestCellsCutShortOrWithMoreBehind(t *testing.T) {
	for _, c := range cellsThatMayBe() {
		row := made(t, c)
		for size := range len(row) {
			wantNoCell(t, row[:size])
			wantNoCell(t, row[len(row)-size:])
		}
		for _, more := range []string{"\x00", "a", "\xff", noughts(32), row, row[:31]} {
			wantNoCell(t, row+more)
			wantNoCell(t, more+row)
		}
	}
}

func TestSumsThatAreOtherOnes(t *testing.T) {
	maker := numberMaker(5)
	for _, c := range cellsThatMayBe() {
		head := made(t, c)[:28]
		sum := crc32.ChecksumIEEE([]byte(head))
		masks := []uint32{^uint32(0), 0xff, 0xff00, 0xff0000, 0xff000000, 0xffff, 0xffff0000}
		for bit := range 32 {
			masks = append(masks, 1<<bit)
		}
		for range 200 {
			masks = append(masks, maker.next()|1)
		}
		for _, mask := range masks {
			wantNoCell(t, string(binary.LittleEndian.AppendUint32([]byte(head), sum^mask)))
		}
		for _, other := range []uint32{sum + 1, sum - 1, ^sum, crc32.ChecksumIEEE([]byte(c.Data)), crc32.ChecksumIEEE([]byte(head[4:]))} {
			if other != sum {
				wantNoCell(t, string(binary.LittleEndian.AppendUint32([]byte(head), other)))
			}
		}
		if turned := string(binary.BigEndian.AppendUint32([]byte(head), sum)); turned[28:] != sealed(head)[28:] {
			wantNoCell(t, turned)
		}
	}
}

// With a sum that is theirs: what is wrong must be seen in the 28 bytes.
func TestSealedBytesThatAreNoCells(t *testing.T) {
	room := letters(24)
	for _, head := range []string{
		"\x43\x19\x00\x00" + room, "\x43\x1c\x00\x00" + room, "\x43\xff\x00\x00" + room, "\x42\x20\x01\x00" + room, "\x40\x19\x01\x00" + room, // more Data than room
		"\x43\x02\x00\x00abc" + noughts(21), "\x43\x02\x00\x00ab" + noughts(21) + "\x01", "\x43\x00\x00\x00\x01" + noughts(23), "\x43\x17\x00\x00" + room, // no noughts behind Data
		"\x03\x02\x00\x00ab" + noughts(22), "\x53\x02\x00\x00ab" + noughts(22), "\xc3\x02\x00\x00ab" + noughts(22), "\x47\x02\x00\x00ab" + noughts(22), "\x44\x18\x01\x00" + room, "\x00\x18\x01\x00" + room, "\xff\x18\x00\x00" + room, // another first byte
		"\x41\x02\x00\x00ab" + noughts(22), "\x40\x17\x01\x00" + room[:23] + "\x00", // short, not the Last
		"\x42\x02\x00\x00ab" + noughts(22), "\x40\x18\x00\x00" + room, // nought, not the First
		"\x43\x02\x01\x00ab" + noughts(22), "\x41\x18\x00\x01" + room, "\x41\x18\xff\xff" + room, // the First, not nought
		"\x42\x00\x03\x00" + noughts(24), "\x41\x00\x00\x00" + noughts(24), "\x40\x00\x00\x00" + noughts(24), "\x40\x00\x01\x00" + noughts(24), // none, not First and Last
		noughts(28),
	} {
		if len(head) != 28 {
			t.Fatalf("%x is of %d bytes", head, len(head))
		}
		wantNoCell(t, sealed(head))
	}
}

// P3.3

// turned: a row of which the bytes from a place on are turned by a mask, its lowest byte first.
func turned(row string, at, width int, mask uint32) string {
	b := []byte(row)
	for i := range width {
		b[at+i] ^= byte(mask >> (8 * i))
	}
	return string(b)
}

// masksOf: masks of so many bytes, none 0: all of one byte; of more, all of up to three bits, the full ones, and many that look like chance.
func masksOf(width int, maker *numberMaker) []uint32 {
	var masks []uint32
	if width == 1 {
		for mask := uint32(1); mask < 256; mask++ {
			masks = append(masks, mask)
		}
		return masks
	}
	full := uint32(1<<(8*width) - 1)
	for a := range 8 * width {
		for b := range a + 1 {
			for c := range b + 1 {
				masks = append(masks, uint32(1)<<a|uint32(1)<<b|uint32(1)<<c)
			}
		}
	}
	for range 1000 {
		masks = append(masks, maker.next()&full)
	}
	masks = append(masks, full, 0xedb88320&full, 0x04c11db7&full, 0x01010101&full, 0x80808080&full)
	masks = slices.DeleteFunc(masks, func(mask uint32) bool { return mask == 0 })
	slices.Sort(masks)
	return slices.Compact(masks)
}

func TestBytesSideBySideThatAreTurned(t *testing.T) {
	maker := numberMaker(7)
	for width := 1; width <= 4; width++ {
		masks := masksOf(width, &maker)
		for k, c := range cellsThatMayBe() {
			row := made(t, c)
			for at := 0; at+width <= len(row); at++ {
				for i, mask := range masks {
					// All masks at each place of some cells; of each cell each place, with a part of them.
					if width == 1 || k%8 == 3 || i%16 == at%16 {
						wantNoCell(t, turned(row, at, width, mask))
					}
				}
			}
		}
	}
}

// Two bytes, turned in all ways, at each place.
func TestTwoBytesTurnedInAllWays(t *testing.T) {
	if testing.Short() {
		t.Skip("some two million rows")
	}
	row := made(t, Cell{Last: true, Number: 258, Data: "ab"})
	for at := range len(row) - 1 {
		for mask := uint32(1); mask < 1<<16; mask++ {
			if c, ok := Read(turned(row, at, 2, mask)); ok || c != (Cell{}) {
				t.Fatalf("%x, turned at %d by %#x: %+v, %v", row, at, mask, c, ok)
			}
		}
	}
}

// P3.4

func TestCellsAreReadAgain(t *testing.T) {
	for _, c := range cellsThatMayBe() {
		row := made(t, c)
		if len(row) != 32 || row != made(t, c) {
			t.Errorf("Make(%+v): %x", c, row)
		}
		wantCell(t, row, c)
	}
	for size := range 25 {
		for _, data := range []string{letters(size), noughts(size), strings.Repeat("\xff", size)} {
			c := Cell{First: true, Last: true, Data: data}
			wantCell(t, made(t, c), c)
			if size > 0 {
				c = Cell{Last: true, Number: 7, Data: data}
				wantCell(t, made(t, c), c)
			}
		}
	}
	for b := range 256 {
		c := Cell{Number: 9, Data: strings.Repeat(string([]byte{byte(b)}), 24)}
		wantCell(t, made(t, c), c)
	}
}

func TestEveryNumber(t *testing.T) {
	room := letters(24)
	for n := range 65536 {
		inner := Cell{First: n == 0, Number: n, Data: room}
		wantCell(t, made(t, inner), inner)
		last := Cell{First: n == 0, Last: true, Number: n, Data: "a"}
		wantCell(t, made(t, last), last)
	}
}

func TestUnlikeCellsHaveUnlikeRows(t *testing.T) {
	rows := map[string]Cell{}
	add := func(c Cell) {
		row := made(t, c)
		if other, there := rows[row]; there {
			t.Errorf("%+v and %+v have the row %x", c, other, row)
		}
		rows[row] = c
	}
	for size := range 25 {
		add(Cell{First: true, Last: true, Data: noughts(size)})
		if size > 0 {
			add(Cell{Last: true, Number: 1, Data: noughts(size)})
			add(Cell{Last: true, Number: 256, Data: noughts(size)})
		}
	}
	add(Cell{First: true, Data: noughts(24)})
	add(Cell{Number: 1, Data: noughts(24)})
	add(Cell{Number: 256, Data: noughts(24)})
}

// A row that is read is the one row of what is read: all first and second bytes, with sums that are theirs.
func TestEachRowIsOneCells(t *testing.T) {
	for _, rest := range []string{
		"\x00\x00" + letters(24), "\x01\x00" + letters(24), "\x00\x01" + letters(24), "\xff\xff" + letters(24),
		noughts(26), "\x01\x00" + noughts(24), "\x00\x00a" + noughts(23), "\x01\x00ab" + noughts(22), "\x00\x00" + letters(23) + "\x00",
	} {
		read := 0
		for pair := range 1 << 16 {
			row := sealed(string([]byte{byte(pair >> 8), byte(pair)}) + rest)
			c, ok := Read(row)
			if !ok {
				if c != (Cell{}) {
					t.Errorf("Read(%x): %+v, false", row, c)
				}
				continue
			}
			read++
			if again := made(t, c); again != row {
				t.Errorf("Read(%x): %+v, of which the row is %x", row, c, again)
			}
		}
		if want := rowsRead(rest); read != want {
			t.Errorf("%x: %d rows are read; want %d", rest, read, want)
		}
	}
}

// rowsRead: how many cells there are whose rows, behind their first two bytes, go on so.
func rowsRead(rest string) int {
	data := strings.TrimRight(rest[2:], "\x00")
	nought := rest[:2] == "\x00\x00"
	// Each length that leaves only noughts behind the data is a Last one's; the full one may be an inner one's, too.
	count := 24 - len(data) + 1 + 1
	if data == "" && !nought {
		count--
	}
	return count
}

// R4

func TestListsHandedInStayAsTheyWere(t *testing.T) {
	whole := []string{"ab", "", "c", "spare"}
	parts := slices.Clone(whole)
	if got, want := Crc(parts[:3]...), crc32.ChecksumIEEE([]byte("abc")); got != want {
		t.Errorf("Crc: %#x; want %#x", got, want)
	}
	if !slices.Equal(parts, whole) {
		t.Errorf("the list has become %q", parts)
	}
}
