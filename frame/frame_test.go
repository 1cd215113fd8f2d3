package frame

import (
	"encoding/binary"
	"encoding/hex"
	"fmt"
	"hash/crc32"
	"math/bits"
	"slices"
	"strings"
	"testing"

	"copyhold/api"
	"copyhold/cell"
)

// letters: a text of so many bytes, no two of which side by side are alike, and none a nought.
func letters(size int) string {
	b := make([]byte, size)
	for i := range b {
		b[i] = byte('a' + i%26)
	}
	return string(b)
}

// noughts: so many bytes 0.
func noughts(size int) string { return strings.Repeat("\x00", size) }

// numberMaker: numbers that look like chance, the same ones in each run.
type numberMaker uint64

func (m *numberMaker) next() uint32 {
	*m = *m*6364136223846793005 + 1442695040888963407
	return uint32(*m >> 32)
}

// mixed: a text of so many bytes that look like chance.
func (m *numberMaker) mixed(size int) string {
	b := make([]byte, size)
	for i := range b {
		b[i] = byte(m.next())
	}
	return string(b)
}

// head: so much of a text as a failure needs to show.
func head(s string) string { return s[:min(len(s), 40)] }

// heads: so much of records as a failure needs to show.
func heads(records []string) string {
	var out strings.Builder
	for i, r := range records {
		if i == 6 {
			out.WriteString(" ..")
			break
		}
		fmt.Fprintf(&out, " %d:%q", len(r), head(r))
	}
	return fmt.Sprintf("%d records%s", len(records), out.String())
}

// cellBytes: a cell's bytes as chapter 3 puts them, with the library's sum, whether such a cell may be or not.
func cellBytes(first, last bool, number int, data string) string {
	mark := byte(0x40)
	if first {
		mark += 1
	}
	if last {
		mark += 2
	}
	row := []byte{mark, byte(len(data)), byte(number % 256), byte(number / 256)}
	row = append(row, data...)
	row = append(row, noughts(24-len(data))...)
	return string(binary.LittleEndian.AppendUint32(row, crc32.ChecksumIEEE(row)))
}

// frameBytes: a record's frame as the chapter's words put it, of a record of any length up to what cells have numbers for.
func frameBytes(record string) string {
	var out strings.Builder
	number := 0
	for len(record) > 24 {
		out.WriteString(cellBytes(number == 0, false, number, record[:24]))
		record = record[24:]
		number++
	}
	out.WriteString(cellBytes(number == 0, true, number, record))
	return out.String()
}

// framesOf: the frames of records, and where each one ends.
func framesOf(records []string) (string, []int) {
	var out strings.Builder
	var ends []int
	for _, r := range records {
		out.WriteString(frameBytes(r))
		ends = append(ends, out.Len())
	}
	return out.String(), ends
}

func written(t *testing.T, records ...string) string {
	t.Helper()
	s, errno := Write(records...)
	if errno != api.OK {
		t.Fatalf("Write of %s: %d; want bytes", heads(records), errno)
	}
	return s
}

func wantTooLong(t *testing.T, records ...string) {
	t.Helper()
	if s, errno := Write(records...); s != "" || errno != api.ErrLong {
		t.Errorf("Write of %s: %d bytes, %d; want none, ErrLong", heads(records), len(s), errno)
	}
}

func wantRead(t *testing.T, s string, want []string, wantWhole int) {
	t.Helper()
	got, whole := Read(s)
	if !slices.Equal(got, want) || whole != wantWhole {
		t.Errorf("Read of %d bytes, %x: %s, %d; want %s, %d", len(s), head(s), heads(got), whole, heads(want), wantWhole)
	}
}

// lengths: both sides of where a record's cells become more, and of where a cell's number needs its other byte.
func lengths() []int {
	return []int{0, 1, 2, 23, 24, 25, 47, 48, 49, 71, 72, 73, 1000, 24*255 - 1, 24 * 255, 24*255 + 1, 24*256 - 1, 24 * 256, 24*256 + 1, 24*257 + 5}
}

// recordLists: no record, one, and some at once.
func recordLists() [][]string {
	lists := [][]string{
		nil, {}, {""}, {"", "", ""}, {"ab"}, {"a", "b"}, {"b", "a"}, {"a", "", "b"},
		{letters(24), letters(24)}, {letters(25), letters(48), letters(49)}, {noughts(24), noughts(25), noughts(48)},
		{"one", strings.Repeat("two", 20), "", "four"},
		{frameBytes("a"), frameBytes(letters(25)) + "x"}, // records that are frames themselves
		{strings.Repeat("\xff", 30), "\x43", cellBytes(true, false, 0, letters(24))},
	}
	maker := numberMaker(4)
	for _, size := range lengths() {
		lists = append(lists, []string{letters(size)}, []string{noughts(size)}, []string{maker.mixed(size), "", maker.mixed(size)})
	}
	return lists
}

// P4.1

func TestARecordWrittenOut(t *testing.T) {
	for digits, records := range map[string][]string{
		"": {},
		"43" + strings.Repeat("00", 27) + "8e37d1ef":                                                     {""},
		"430200006162" + strings.Repeat("00", 22) + "a5a65f81":                                           {"ab"},
		"43" + strings.Repeat("00", 27) + "8e37d1ef430200006162" + strings.Repeat("00", 22) + "a5a65f81": {"", "ab"},
	} {
		want, err := hex.DecodeString(digits)
		if err != nil {
			t.Fatal(err)
		}
		if got := written(t, records...); got != string(want) {
			t.Errorf("Write(%q): %x; want %s", records, got, digits)
		}
		wantRead(t, string(want), records, len(want))
	}
}

func TestExamplesOfTheChapter(t *testing.T) {
	if got := written(t, "ab"); got != cellBytes(true, true, 0, "ab") {
		t.Errorf("ab: %x", got)
	}
	if got := written(t, letters(24)); got != cellBytes(true, true, 0, letters(24)) {
		t.Errorf("24 bytes: %x", got)
	}
	if got := written(t, letters(25)); got != cellBytes(true, false, 0, letters(24))+cellBytes(false, true, 1, "y") {
		t.Errorf("25 bytes: %x", got)
	}
	if got := written(t); got != "" {
		t.Errorf("none of a record: %x", got)
	}
	if got := written(t, ""); got != cellBytes(true, true, 0, "") {
		t.Errorf("an empty one: %x", got)
	}
	ab := written(t, "a", "b")
	wantRead(t, ab[:len(ab)-1], []string{"a"}, 32)
	wantRead(t, "\x00"+written(t, "b"), nil, 0)
}

func TestFortyEightBytesAreTwoCells(t *testing.T) {
	s := letters(48)
	if got := written(t, s); got != cellBytes(true, false, 0, s[:24])+cellBytes(false, true, 1, s[24:]) {
		t.Errorf("48 bytes: %x", got)
	}
	s = letters(49)
	if got := written(t, s); got != cellBytes(true, false, 0, s[:24])+cellBytes(false, false, 1, s[24:48])+cellBytes(false, true, 2, s[48:]) {
		t.Errorf("49 bytes: %x", got)
	}
}

func TestRecordsAsTheirFrames(t *testing.T) {
	for _, records := range recordLists() {
		want, _ := framesOf(records)
		if got := written(t, records...); got != want {
			t.Errorf("Write of %s: %x; want %x", heads(records), head(got), head(want))
		}
	}
}

// The cells of a frame, asked one by one.
func TestCellsOfAFrame(t *testing.T) {
	for _, size := range append(lengths(), api.MaxRecord) {
		record := letters(size)
		s := written(t, record)
		count := max(1, (size+23)/24)
		if len(s) != 32*count {
			t.Fatalf("a record of %d bytes has %d; want %d cells", size, len(s), count)
		}
		for k := range count {
			want := cell.Cell{First: k == 0, Last: k == count-1, Number: k, Data: record[24*k : min(24*k+24, size)]}
			if c, ok := cell.Read(s[32*k : 32*k+32]); !ok || c != want {
				t.Fatalf("a record of %d bytes, cell %d: %+v, %v; want %+v", size, k, c, ok, want)
			}
		}
	}
}

func TestTheLongestRecord(t *testing.T) {
	for _, size := range []int{api.MaxRecord - 9, api.MaxRecord - 8, api.MaxRecord - 7, api.MaxRecord - 1, api.MaxRecord} {
		record := letters(size)
		s := frameBytes(record)
		if got := written(t, record); got != s {
			t.Errorf("Write of %d bytes: %d bytes; want %d", size, len(got), len(s))
		}
		wantRead(t, s, []string{record}, len(s))
		wantRead(t, s+frameBytes("b")+"b", []string{record, "b"}, len(s)+32)
		wantRead(t, frameBytes("a")+s, []string{"a", record}, len(s)+32)
	}
	long := letters(api.MaxRecord)
	both := written(t, long, long)
	wantRead(t, both, []string{long, long}, len(both))
}

func TestRecordsThatAreTooLong(t *testing.T) {
	long := letters(api.MaxRecord)
	for _, more := range []string{long + "a", long + "\x00", long + letters(24), letters(24 * 65536), letters(24*65536 + 1), letters(1 << 21)} {
		wantTooLong(t, more)
		wantTooLong(t, more, "a")
		wantTooLong(t, "a", more)
		wantTooLong(t, "a", "", more, long)
		wantTooLong(t, long, more)
		wantTooLong(t, more, more)
	}
}

// P4.2

func TestTextsWithoutAWholeRecord(t *testing.T) {
	room := letters(24)
	frame := frameBytes(letters(60))
	wantRead(t, "", nil, 0)
	for _, s := range []string{
		"\x00", "a", noughts(31), noughts(32), noughts(64), letters(32), letters(1000), strings.Repeat("\xff", 64), strings.Repeat("@", 32), strings.Repeat("C", 96),
		cellBytes(false, true, 1, "a"), cellBytes(false, true, 1, room), cellBytes(false, false, 1, room), cellBytes(false, true, 65535, "a"), // not a First one
		frame[32:], frame[64:],
		cellBytes(true, false, 0, room), // the Last one is missing
		frame[:64],
		cellBytes(true, true, 1, "a"), cellBytes(false, true, 0, "a"), cellBytes(true, false, 0, "a") + cellBytes(false, true, 1, "b"), // cells that may not be
		cellBytes(true, false, 0, room) + cellBytes(false, true, 1, ""),
		cellBytes(true, false, 0, room) + cellBytes(false, false, 1, "a") + cellBytes(false, true, 2, "b"),
	} {
		wantRead(t, s, nil, 0)
		wantRead(t, s+frameBytes("b"), nil, 0)
		wantRead(t, frameBytes("a")+s, []string{"a"}, 32)
		wantRead(t, frameBytes(letters(30))+s+frameBytes("b"), []string{letters(30)}, 64)
	}
}

func TestCellsInAWrongOrder(t *testing.T) {
	s := frameBytes(letters(80))
	var c [4]string
	for k := range c {
		c[k] = s[32*k : 32*k+32]
	}
	read := 0
	for order := range 4 * 4 * 4 * 4 {
		i, j, k, l := order&3, order>>2&3, order>>4&3, order>>6&3
		text := c[i] + c[j] + c[k] + c[l]
		if text == s {
			read++
			wantRead(t, text, []string{letters(80)}, 128)
			continue
		}
		wantRead(t, text, nil, 0)
		wantRead(t, frameBytes("a")+text, []string{"a"}, 32)
	}
	if read != 1 {
		t.Errorf("%d orders are read", read)
	}
	for _, text := range []string{
		c[0] + c[0] + c[1] + c[2] + c[3], c[0] + c[1] + c[1] + c[2] + c[3], c[0] + c[1] + c[2] + c[2] + c[3], // one twice
		c[1] + c[2] + c[3], c[0] + c[2] + c[3], c[0] + c[1] + c[3], c[0] + c[1] + c[2], // one missing
		c[0] + c[3], c[0] + frameBytes("a"), c[0] + c[1] + c[2] + frameBytes("a") + c[3],
		c[0] + noughts(32) + c[1] + c[2] + c[3],
	} {
		wantRead(t, text, nil, 0)
		wantRead(t, text+s, nil, 0)
	}
	// A Last one twice: it is behind the whole record.
	wantRead(t, s+c[3], []string{letters(80)}, 128)
}

func TestNumbersThatDoNotGoOn(t *testing.T) {
	room := letters(24)
	for _, n := range []int{2, 3, 255, 256, 257, 258, 512, 65281, 65535} {
		wantRead(t, cellBytes(true, false, 0, room)+cellBytes(false, true, n, "b"), nil, 0)
	}
	// Behind the cell 255 comes 256, and not one with the same lower byte.
	head := frameBytes(letters(24*256 + 1))[:256*32]
	for _, n := range []int{0, 255, 257, 512, 1} {
		wantRead(t, head+cellBytes(n == 0, true, n, "b"), nil, 0)
	}
	wantRead(t, head+cellBytes(false, true, 256, "b"), []string{letters(24*256) + "b"}, 257*32)
}

// One cell more at the end, or at the beginning of the next record.
func TestCellsAtTheBordersOfRecords(t *testing.T) {
	room := letters(24)
	one := frameBytes(room)
	wantRead(t, one+cellBytes(false, true, 1, "b"), []string{room}, 32)
	wantRead(t, one+one, []string{room, room}, 64)
	wantRead(t, cellBytes(true, false, 0, room)+one, nil, 0)
	wantRead(t, cellBytes(true, false, 0, room)+cellBytes(false, true, 1, room)+cellBytes(false, true, 2, "b"), []string{room + room}, 64)
}

func TestWhatStandsBehindIsNoMatter(t *testing.T) {
	records := []string{"a", letters(60), ""}
	s, _ := framesOf(records)
	maker := numberMaker(6)
	tails := []string{"\x00", "a", "\xff", noughts(31), noughts(32), noughts(1000), letters(31), letters(32), s[1:], s[64:], s[:31], "\x00" + s, maker.mixed(500)}
	tails = append(tails, frameBytes(letters(api.MaxRecord+1)), frameBytes(letters(48))[:63])
	for _, tail := range tails {
		wantRead(t, s+tail, records, len(s))
		wantRead(t, s+tail+s, records, len(s))
		wantRead(t, tail+s, nil, 0)
	}
}

// Cells have numbers for more bytes than a record may have: such ones are no record's frame.
func TestFramesOfWhatIsTooLong(t *testing.T) {
	for _, size := range []int{api.MaxRecord + 1, api.MaxRecord + 15, api.MaxRecord + 16, api.MaxRecord + 17, 24 * 65536} {
		s := frameBytes(letters(size))
		wantRead(t, s, nil, 0)
		wantRead(t, frameBytes("a")+s+frameBytes("b"), []string{"a"}, 32)
	}
	// Numbers that begin again behind the last one.
	s := frameBytes(letters(24 * 65536))
	wantRead(t, s[:len(s)-32]+cellBytes(false, false, 65535, letters(24))+s, nil, 0)
}

// recordAt: the record whose frame a text begins with, as the chapter's words say it: its bytes are held against the frames of what its cells have.
func recordAt(s string) (string, bool) {
	data := ""
	for k := 0; 32*k+32 <= len(s); k++ {
		c := s[32*k : 32*k+32]
		data += c[4 : 4+min(int(c[1]), 24)]
		if frameBytes(data) == s[:32*k+32] {
			return data, true
		}
	}
	return "", false
}

// All lists of up to five cells, out of some that are ones and some that are none.
func TestAllListsOfSomeCells(t *testing.T) {
	room := letters(24)
	stones := []string{
		cellBytes(true, true, 0, ""), cellBytes(true, true, 0, room), cellBytes(true, false, 0, room),
		cellBytes(false, false, 1, room), cellBytes(false, true, 1, "b"), cellBytes(false, false, 2, room), cellBytes(false, true, 2, room),
		cellBytes(false, true, 1, ""), noughts(32),
	}
	texts := []string{""}
	for range 5 {
		var longer []string
		for _, text := range texts {
			for _, stone := range stones {
				s := text + stone
				longer = append(longer, s)
				var want []string
				whole := 0
				for r, ok := recordAt(s); ok; r, ok = recordAt(s[whole:]) {
					want = append(want, r)
					whole += len(frameBytes(r))
				}
				wantRead(t, s, want, whole)
				if again := written(t, want...); again != s[:whole] {
					t.Errorf("%s, written again: %x; want %x", heads(want), again, s[:whole])
				}
			}
		}
		texts = longer
	}
}

// P4.3

// wantTail: of records' frames, cut somewhere and changed from a place on (or nowhere, if that is behind the cut), those that lie whole ahead of both.
func wantTail(t *testing.T, s string, records []string, ends []int, cut, changed int) {
	t.Helper()
	n, whole := 0, 0
	for n < len(ends) && ends[n] <= min(cut, changed) {
		whole = ends[n]
		n++
	}
	wantRead(t, s, records[:n], whole)
}

// turned: a text of which the bytes from a place on are turned by a mask, its lowest byte first, as far as there are any; and the first one that was changed.
func turned(s string, at int, mask uint32) (string, int) {
	b := []byte(s)
	for i := 0; i < 4 && at+i < len(b); i++ {
		b[at+i] ^= byte(mask >> (8 * i))
	}
	return string(b), at + bits.TrailingZeros32(mask)/8
}

// listsToCut: of frames of one cell and of some, in unlike orders.
func listsToCut() [][]string {
	return [][]string{
		{""}, {"ab"}, {letters(60)},
		{"", "a", letters(24), letters(25), letters(48)},
		{letters(49), "", noughts(24), noughts(48), strings.Repeat("\xff", 25), "x"},
	}
}

func TestFramesCutAtEachPlace(t *testing.T) {
	for _, records := range append(listsToCut(), []string{"one", letters(1000), "", letters(24 * 12)}) {
		s, ends := framesOf(records)
		for cut := range len(s) + 1 {
			wantTail(t, s[:cut], records, ends, cut, len(s))
			// What a cut leaves may be filled with noughts.
			filled := s[:cut] + noughts(len(s)-cut)
			wantTail(t, filled, records, ends, len(s), sameUpTo(s, filled))
		}
	}
}

// sameUpTo: how many bytes of two texts are alike, from the first one on.
func sameUpTo(a, b string) int {
	n := 0
	for n < min(len(a), len(b)) && a[n] == b[n] {
		n++
	}
	return n
}

// masks: none 0: all of one byte, each pair of bits, full ones and some that look like chance, of two to four bytes.
func masks() []uint32 {
	list := []uint32{0xffff, 0xffffff, 0xffffffff, 0xff00, 0xff0000, 0xff000000, 0xff0000ff, 0xffff0000, 0xedb88320, 0x04c11db7, 0x82608edb, 0x01010101, 0x80808080}
	for mask := uint32(1); mask < 256; mask++ {
		list = append(list, mask)
	}
	for a := range 32 {
		for b := range a {
			list = append(list, 1<<a|1<<b)
		}
	}
	maker := numberMaker(8)
	for range 60 {
		list = append(list, maker.next()|1, maker.next()&0xffffff|1, maker.next()&0xffff|1)
	}
	slices.Sort(list)
	return slices.Compact(list)
}

func TestBytesTurnedAtEachPlace(t *testing.T) {
	for _, records := range listsToCut() {
		s, ends := framesOf(records)
		for at := range len(s) {
			for _, mask := range masks() {
				text, changed := turned(s, at, mask)
				if changed < len(s) {
					wantTail(t, text, records, ends, len(s), changed)
				}
			}
		}
	}
}

func TestCutAndTurned(t *testing.T) {
	for _, records := range listsToCut() {
		s, ends := framesOf(records)
		for cut := range len(s) + 1 {
			for at := range len(s) {
				mask := []uint32{1, 0x80, 0xffffffff, 0xff000000, 0x00010000, 0x8001, 0xdeadbeef}[(cut+at)%7]
				text, changed := turned(s, at, mask)
				wantTail(t, text[:cut], records, ends, cut, changed)
			}
		}
	}
}

// One long record: wherever a byte of it is turned or cut away, it is none.
func TestALongRecordTurned(t *testing.T) {
	records := []string{"a", letters(api.MaxRecord), "b"}
	s, ends := framesOf(records)
	for at := 0; at < len(s); at += 12007 {
		text, changed := turned(s, at, 0x40000001)
		wantTail(t, text, records, ends, len(s), changed)
		wantTail(t, s[:at], records, ends, at, len(s))
	}
	for at := len(s) - 40; at < len(s); at++ {
		text, changed := turned(s, at, 0x10)
		wantTail(t, text, records, ends, len(s), changed)
		wantTail(t, s[:at], records, ends, at, len(s))
	}
}

// P4.4

func TestRecordsAreReadAgain(t *testing.T) {
	for _, records := range recordLists() {
		s := written(t, records...)
		wantRead(t, s, records, len(s))
		got, whole := Read(s)
		if again := written(t, got...); again != s[:whole] {
			t.Errorf("%s, read and written again: %x; want %x", heads(records), head(again), head(s))
		}
	}
}

func TestTextsReadAndWrittenAgain(t *testing.T) {
	maker := numberMaker(10)
	for range 3000 {
		var records []string
		for range maker.next() % 5 {
			records = append(records, maker.mixed(int(maker.next()%80)))
		}
		s, _ := framesOf(records)
		switch maker.next() % 3 {
		case 0:
			s = s[:int(maker.next())%(len(s)+1)]
		case 1:
			s, _ = turned(s, int(maker.next())%(len(s)+1), maker.next())
		case 2:
			s += maker.mixed(int(maker.next() % 70))
		}
		got, whole := Read(s)
		if again := written(t, got...); again != s[:whole] {
			t.Errorf("Read of %x, written again: %x; want %x", s, again, s[:whole])
		}
		if record, ok := recordAt(s[whole:]); ok {
			t.Errorf("Read of %x: the record %x at %d is left", s, record, whole)
		}
	}
}

func TestFramesOfMoreRecords(t *testing.T) {
	records := []string{"a", "", letters(24), letters(25), letters(api.MaxRecord), noughts(48), "z"}
	all := written(t, records...)
	for i := range len(records) + 1 {
		some, others := written(t, records[:i]...), written(t, records[i:]...)
		if some+others != all {
			t.Errorf("%d records and the others: %d and %d bytes; want %d", i, len(some), len(others), len(all))
		}
	}
	one := ""
	for _, r := range records {
		one += written(t, r)
	}
	if one != all {
		t.Errorf("one by one: %d bytes; want %d", len(one), len(all))
	}
}

// R4

func TestListsHandedInStayAsTheyWere(t *testing.T) {
	all := []string{"ab", "", letters(30), "spare", letters(api.MaxRecord + 1)}
	records := slices.Clone(all)
	s := written(t, records[:3]...)
	if want, _ := framesOf(all[:3]); s != want {
		t.Errorf("Write: %x; want %x", s, want)
	}
	wantTooLong(t, records...)
	if !slices.Equal(records, all) {
		t.Errorf("the list has become %s", heads(records))
	}
}

func TestAnswersAreNewMemory(t *testing.T) {
	s := written(t, "a", "b")
	one, _ := Read(s)
	one[0] = "turned"
	_ = append(one, "more")
	wantRead(t, s, []string{"a", "b"}, 64)
}
