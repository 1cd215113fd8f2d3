package batch

import (
	"math"
	"slices"
	"strings"
	"testing"
	"unsafe"

	"copyhold/api"
)

// numberMaker: numbers that look like chance, the same ones in each run.
type numberMaker uint64

func (m *numberMaker) below(n int) int {
	*m = *m*6364136223846793005 + 1442695040888963407
	return int(uint32(*m>>32)) % n
}

// letters: a text of so many bytes, no two of which side by side are alike.
func letters(size int) string {
	b := make([]byte, size)
	for i := range b {
		b[i] = byte('a' + i%26)
	}
	return string(b)
}

// head: so much of a text as a failure needs to show.
func head(s string) string { return s[:min(len(s), 40)] }

// numberRow: a number's bytes, by the words of chapter 1.
func numberRow(n uint64) string {
	if n < 248 {
		return string([]byte{byte(n)})
	}
	var low []byte
	for ; n > 0; n >>= 8 {
		low = append(low, byte(n))
	}
	slices.Reverse(low)
	return string([]byte{byte(247 + len(low))}) + string(low)
}

func textRow(s string) string { return numberRow(uint64(len(s))) + s }

// rowByWords: a batch's bytes, by the words of the chapter, of batches that may not be too.
func rowByWords(b Batch) string {
	s := numberRow(b.Seq) + numberRow(uint64(len(b.Ops)))
	for _, op := range b.Ops {
		if op.Gone {
			s += "\x01" + textRow(op.Key)
		} else {
			s += "\x00" + textRow(op.Key) + textRow(op.Value)
		}
	}
	return s
}

// some: so many operations that may be, each third one Gone.
func some(count int) []api.Op {
	var ops []api.Op
	for i := range count {
		op := api.Op{Key: letters(1 + i), Value: letters(3 * i)}
		if i%3 == 2 {
			op = api.Op{Key: op.Key, Gone: true}
		}
		ops = append(ops, op)
	}
	return ops
}

// of: a batch with number 1.
func of(ops ...api.Op) Batch { return Batch{Seq: 1, Ops: ops} }

// example: the batch of the chapter, and its bytes.
func example() (Batch, string) {
	return Batch{Seq: 7, Ops: []api.Op{{Key: "a", Value: "x"}, {Key: "b", Gone: true}}}, "\x07\x02\x00\x01a\x01x\x01\x01b"
}

// sound: batches that may be, on all edges.
func sound() []Batch {
	b, _ := example()
	batches := []Batch{b}
	for _, seq := range seqs() {
		batches = append(batches, Batch{Seq: seq, Ops: some(1)})
	}
	for count := 1; count <= api.MaxOps; count++ {
		batches = append(batches, Batch{Seq: 300, Ops: some(count)}, Batch{Seq: 1<<63 - uint64(count-1), Ops: some(count)})
	}
	for _, key := range []int{1, 2, 63, 64} {
		for _, value := range []int{0, 1, 247, 248, 255, 256, 511, 512} {
			batches = append(batches, of(api.Op{Key: letters(key), Value: letters(value)}, api.Op{Key: letters(key)}))
		}
		batches = append(batches, of(api.Op{Key: letters(key), Gone: true}))
	}
	most := api.Op{Key: letters(api.MaxKey), Value: letters(api.MaxValue)}
	batches = append(batches, of(slices.Repeat([]api.Op{most}, api.MaxOps)...))
	// Keys may come again, and bytes are any.
	return append(batches, of(api.Op{Key: "k", Value: "1"}, api.Op{Key: "k", Gone: true}, api.Op{Key: "k", Value: "2"}),
		of(api.Op{Key: "\x00", Value: "\xff\x00"}, api.Op{Key: "\xff\xfe", Value: "\x01"}))
}

// seqs: numbers of a first operation that may be, on both sides of where their rows change.
func seqs() []uint64 {
	ns := []uint64{1, 2, 246, 247, 248, 255, 256, 65535, 65536, 1<<63 - 2, 1<<63 - 1, 1 << 63}
	for k := 3; k < 8; k++ {
		ns = append(ns, 1<<(8*k)-1, 1<<(8*k))
	}
	return ns
}

func wantCheck(t *testing.T, what string, b Batch, want api.Errno) {
	t.Helper()
	if got := Check(b); got != want {
		t.Errorf("Check of %s: %d; want %d", what, got, want)
	}
	row, errno := Encode(b)
	wantRow := ""
	if want == api.OK {
		wantRow = rowByWords(b)
	}
	if row != wantRow || errno != want {
		t.Errorf("Encode of %s: %x (%d bytes), %d; want %x (%d bytes), %d", what, head(row), len(row), errno, head(wantRow), len(wantRow), want)
	}
}

func wantDecode(t *testing.T, s string, want Batch) {
	t.Helper()
	if got, ok := Decode(s); !ok || got.Seq != want.Seq || !slices.Equal(got.Ops, want.Ops) {
		t.Errorf("Decode of %x (%d bytes): %d, %d operations, %v; want %d, %d operations, true", head(s), len(s), got.Seq, len(got.Ops), ok, want.Seq, len(want.Ops))
	}
}

func wantNoDecode(t *testing.T, what, s string) {
	t.Helper()
	if got, ok := Decode(s); ok || got.Seq != 0 || len(got.Ops) != 0 {
		t.Errorf("Decode of %s, %x (%d bytes): %d, %d operations, %v; want the zero batch, false", what, head(s), len(s), got.Seq, len(got.Ops), ok)
	}
}

// P6.1

func TestExample(t *testing.T) {
	b, row := example()
	if got, errno := Encode(b); got != row || errno != api.OK {
		t.Errorf("Encode: %x, %d; want %x, OK", got, errno, row)
	}
	wantCheck(t, "the example", b, api.OK)
}

func TestBatchesThatMayBe(t *testing.T) {
	for _, b := range sound() {
		wantCheck(t, "a batch that may be", b, api.OK)
	}
}

func TestHowManyOperations(t *testing.T) {
	for count := range 2*api.MaxOps + 2 {
		want := api.OK
		switch {
		case count > 16:
			want = api.ErrLong
		case count == 0:
			want = api.ErrArg
		}
		wantCheck(t, numberRow(uint64(count))+" operations", of(slices.Repeat([]api.Op{{Key: "k"}}, count)...), want)
	}
	wantCheck(t, "an empty list", Batch{Seq: 1, Ops: []api.Op{}}, api.ErrArg)
	wantCheck(t, "nothing", Batch{}, api.ErrArg)
}

func TestLengthsOfKeysAndValues(t *testing.T) {
	for _, key := range []int{0, 1, 2, 63, 64, 65, 66, 128, 1000} {
		for _, value := range []int{0, 1, 511, 512, 513, 514, 5000} {
			for _, gone := range []bool{false, true} {
				want := api.OK
				switch {
				case key > 64 || value > 512:
					want = api.ErrLong
				case key == 0 || gone && value > 0:
					want = api.ErrArg
				}
				op := api.Op{Key: letters(key), Value: letters(value), Gone: gone}
				for _, at := range []int{0, 1, 15} {
					ops := some(16)
					ops[at] = op
					wantCheck(t, "an operation among others", of(ops...), want)
				}
				wantCheck(t, "an operation alone", of(op), want)
			}
		}
	}
}

func TestNumbersThatMayBe(t *testing.T) {
	for _, count := range []int{1, 2, 3, 15, 16} {
		last := uint64(1<<63) - uint64(count-1)
		for _, x := range []struct {
			seq  uint64
			want api.Errno
		}{
			{0, api.ErrArg}, {1, api.OK}, {2, api.OK},
			{last - 1, api.OK}, {last, api.OK}, {last + 1, api.ErrArg}, {last + 2, api.ErrArg},
			{1<<63 + 1, api.ErrArg}, {1<<63 + 16, api.ErrArg},
			{math.MaxUint64, api.ErrArg}, {math.MaxUint64 - 1, api.ErrArg}, {math.MaxUint64 - 15, api.ErrArg}, {math.MaxUint64 - 16, api.ErrArg},
		} {
			wantCheck(t, "a batch by its number", Batch{Seq: x.seq, Ops: some(count)}, x.want)
		}
	}
	wantCheck(t, "one operation with the last number", Batch{Seq: 1 << 63, Ops: some(1)}, api.OK)
	wantCheck(t, "two, the second one behind the last number", Batch{Seq: 1 << 63, Ops: some(2)}, api.ErrArg)
	for _, seq := range []uint64{1, 1<<63 + 1, math.MaxUint64} {
		wantCheck(t, "no operation", Batch{Seq: seq}, api.ErrArg)
	}
}

// What is too long is told ahead of all else, wherever it stands.
func TestTooLongBesideOtherFaults(t *testing.T) {
	long := []api.Op{
		{Key: letters(65)}, {Key: letters(65), Gone: true}, {Key: letters(65), Value: "v", Gone: true},
		{Key: "k", Value: letters(513)}, {Value: letters(513)}, {Key: "k", Value: letters(513), Gone: true}, {Value: letters(513), Gone: true},
	}
	bad := []api.Op{{}, {Value: "v"}, {Gone: true}, {Key: "k", Value: "v", Gone: true}, {Key: "k", Value: letters(512), Gone: true}}
	for _, wrong := range bad {
		for _, seq := range []uint64{0, 1, 1<<63 + 1, math.MaxUint64} {
			wantCheck(t, "an operation that may not be", Batch{Seq: seq, Ops: []api.Op{wrong}}, api.ErrArg)
			wantCheck(t, "seventeen that may not be", Batch{Seq: seq, Ops: slices.Repeat([]api.Op{wrong}, 17)}, api.ErrLong)
			for _, op := range long {
				for _, ops := range [][]api.Op{{op}, {op, wrong}, {wrong, op}, {wrong, wrong, {Key: "k"}, op}} {
					wantCheck(t, "one too long", Batch{Seq: seq, Ops: ops}, api.ErrLong)
				}
			}
		}
	}
	wantCheck(t, "seventeen with number 0", Batch{Ops: some(17)}, api.ErrLong)
}

// P6.2

func TestDecodeOfWhatIsEncoded(t *testing.T) {
	for _, b := range sound() {
		row, _ := Encode(b)
		wantDecode(t, row, b)
		wantDecode(t, rowByWords(b), b)
	}
}

func TestBytesCutOrWithMore(t *testing.T) {
	for _, b := range sound() {
		row := rowByWords(b)
		// Long rows are cut at each place near both ends and at every 7th one between.
		for at := range len(row) {
			if at < 80 || at > len(row)-80 || at%7 == 0 {
				wantNoDecode(t, "bytes cut", row[:at])
			}
		}
		for _, more := range []string{"\x00", "\x01", "\xff", "\x00\x01a\x00", "\x01\x01a", row} {
			wantNoDecode(t, "bytes with more behind", row+more)
		}
		for _, ahead := range []string{"\x00", "\x01", "\xff"} {
			if got, ok := Decode(ahead + row); ok && rowByWords(got) != ahead+row {
				t.Errorf("Decode of %x: a batch that has other bytes", head(ahead+row))
			}
		}
	}
	wantNoDecode(t, "no byte", "")
}

func TestBytesOfBatchesThatMayNotBe(t *testing.T) {
	key := api.Op{Key: "k"}
	for _, b := range []Batch{
		{}, {Seq: 1}, {Seq: 0, Ops: []api.Op{key}}, {Seq: 0, Ops: some(16)},
		{Seq: 1, Ops: some(17)}, {Seq: 1, Ops: slices.Repeat([]api.Op{key}, 17)}, {Seq: 1, Ops: slices.Repeat([]api.Op{key}, 300)},
		{Seq: 1 << 63, Ops: some(2)}, {Seq: 1<<63 - 14, Ops: some(16)}, {Seq: 1<<63 + 1, Ops: some(1)},
		{Seq: math.MaxUint64, Ops: some(1)}, {Seq: math.MaxUint64, Ops: some(2)}, {Seq: math.MaxUint64, Ops: some(3)},
		of(api.Op{}), of(api.Op{Value: "v"}), of(api.Op{Gone: true}), of(key, api.Op{}), of(key, api.Op{Gone: true}, key),
		of(api.Op{Key: letters(65)}), of(api.Op{Key: letters(65), Gone: true}), of(key, api.Op{Key: letters(300), Value: "v"}),
		of(api.Op{Key: "k", Value: letters(513)}), of(key, api.Op{Key: "k", Value: letters(5000)}),
	} {
		wantNoDecode(t, "a batch that may not be", rowByWords(b))
	}
	for _, s := range []string{"\x01\x01\x01\x01k\x00", "\x01\x01\x01\x01k\x01v"} {
		wantNoDecode(t, "one Gone with a value", s)
	}
}

func TestMarks(t *testing.T) {
	for mark := range 256 {
		for _, rest := range []string{"\x01k", "\x01k\x01v", "\x01k\x00"} {
			s := "\x01\x01" + string([]byte{byte(mark)}) + rest
			switch {
			case mark == 0 && rest == "\x01k\x01v":
				wantDecode(t, s, of(api.Op{Key: "k", Value: "v"}))
			case mark == 0 && rest == "\x01k\x00":
				wantDecode(t, s, of(api.Op{Key: "k"}))
			case mark == 1 && rest == "\x01k":
				wantDecode(t, s, of(api.Op{Key: "k", Gone: true}))
			default:
				wantNoDecode(t, "a mark", s)
			}
		}
	}
}

func TestNumbersWrittenTooLong(t *testing.T) {
	for _, s := range []string{
		"\xf8\x07\x01\x00\x01a\x01x", "\xf9\x00\x07\x01\x00\x01a\x01x", "\xff\x00\x00\x00\x00\x00\x00\x00\x07\x01\x00\x01a\x01x",
		"\xf9\x00\xff\x01\x00\x01a\x01x", "\x07\xf8\x01\x00\x01a\x01x", "\x07\xf9\x00\x01\x00\x01a\x01x",
		"\x07\x01\x00\xf8\x01a\x01x", "\x07\x01\x00\x01a\xf8\x01x", "\x07\x01\x01\xf8\x01a",
		"\x07\x01\x00\x01a\xf8\x00", "\x07\x01\xf8\x00\x01a\x01x", "\x07\x01\xf8\x01\x01a",
	} {
		wantNoDecode(t, "a number written too long", s)
	}
	wantDecode(t, "\x07\x01\x00\x01a\x01x", Batch{Seq: 7, Ops: []api.Op{{Key: "a", Value: "x"}}})
}

// Lengths and counts that no text could have room for.
func TestCountsBeyondWhatIsThere(t *testing.T) {
	for _, n := range []uint64{3, 16, 17, 255, 256, 1 << 31, 1 << 32, 1<<63 - 1, 1 << 63, math.MaxUint64} {
		row := numberRow(n)
		for _, s := range []string{"\x07" + row, "\x07" + row + "\x00\x01a\x01x\x01\x01b", "\x07\x01\x00" + row + "a\x01x", "\x07\x01\x00\x01a" + row + "x", "\x07\x01\x01" + row + "a"} {
			wantNoDecode(t, "a count beyond what is there", s)
		}
	}
}

// P6.3

func TestLastAndEntriesOfTheExample(t *testing.T) {
	b, _ := example()
	if got := b.Last(); got != 8 {
		t.Errorf("Last: %d; want 8", got)
	}
	if got := b.Entries(); !slices.Equal(got, []api.Entry{{Key: "a", Value: "x", Seq: 7}, {Key: "b", Seq: 8, Gone: true}}) {
		t.Errorf("Entries: %v", got)
	}
}

func TestLastAndEntriesOfAny(t *testing.T) {
	odd := []api.Op{{}, {Gone: true}, {Key: "k", Value: "v", Gone: true}, {Value: letters(600)}, {Key: letters(70)}, {Key: "k", Value: letters(513), Gone: true}}
	lists := [][]api.Op{nil, {}, some(1), some(2), some(16), some(17), some(40), odd, slices.Repeat(odd, 50)}
	for _, seq := range append(seqs(), 0, 1<<63+1, math.MaxUint64-40, math.MaxUint64-16, math.MaxUint64-1, math.MaxUint64) {
		for _, ops := range lists {
			b := Batch{Seq: seq, Ops: ops}
			entries := b.Entries()
			if len(entries) != len(ops) {
				t.Fatalf("%d entries of %d operations", len(entries), len(ops))
			}
			// Numbers count on one by one, and behind the greatest comes 0.
			n, last := seq, seq
			for i, op := range ops {
				if want := (api.Entry{Key: op.Key, Value: op.Value, Seq: n, Gone: op.Gone}); entries[i] != want {
					t.Errorf("entry %d of Seq %d has number %d, Gone %v; want %d, %v, or its texts are others", i, seq, entries[i].Seq, entries[i].Gone, n, op.Gone)
				}
				last = n
				n++
			}
			if got := b.Last(); got != last {
				t.Errorf("Last of Seq %d, %d operations: %d; want %d", seq, len(ops), got, last)
			}
		}
	}
}

func TestNumbersGoRound(t *testing.T) {
	b := Batch{Seq: math.MaxUint64, Ops: some(3)}
	if got := b.Last(); got != 1 {
		t.Errorf("Last: %d; want 1", got)
	}
	entries := b.Entries()
	if entries[0].Seq != math.MaxUint64 || entries[1].Seq != 0 || entries[2].Seq != 1 {
		t.Errorf("numbers: %d, %d, %d", entries[0].Seq, entries[1].Seq, entries[2].Seq)
	}
	if got := (Batch{Seq: math.MaxUint64}).Last(); got != math.MaxUint64 {
		t.Errorf("Last without operations: %d", got)
	}
}

// P6.4

// Each byte is turned to each other value: what is still read has just those bytes.
func TestBytesChanged(t *testing.T) {
	for _, b := range []Batch{{Seq: 7, Ops: some(3)}, {Seq: 300, Ops: some(6)}, {Seq: 1 << 63, Ops: some(1)}, of(api.Op{Key: letters(64), Value: letters(300)}, api.Op{Key: "b", Gone: true})} {
		row := rowByWords(b)
		for at := range len(row) {
			for value := range 256 {
				s := row[:at] + string([]byte{byte(value)}) + row[at+1:]
				wantJustItsBytes(t, s)
				if got, ok := Decode(s); ok && s != row && got.Seq == b.Seq && slices.Equal(got.Ops, b.Ops) {
					t.Errorf("%x is the same batch's as %x", head(s), head(row))
				}
			}
		}
	}
}

// wantJustItsBytes: what is read of a text has that text as its bytes, and may be.
func wantJustItsBytes(t *testing.T, s string) (ok bool) {
	t.Helper()
	b, ok := Decode(s)
	if !ok {
		wantNoDecode(t, "none's bytes", s)
		return false
	}
	if row, errno := Encode(b); row != s || errno != api.OK || rowByWords(b) != s {
		t.Errorf("Decode of %x: a batch with the bytes %x, %d", head(s), head(row), errno)
	}
	return true
}

// All texts of few bytes out of a small alphabet: each that is read is the row of what is read.
func TestSmallTexts(t *testing.T) {
	const alphabet = "\x00\x01\x02a\xf8"
	read := 0
	texts := []string{""}
	for range 8 {
		var longer []string
		for _, s := range texts {
			for i := range len(alphabet) {
				longer = append(longer, s+alphabet[i:i+1])
			}
		}
		for _, s := range longer {
			if wantJustItsBytes(t, s) {
				read++
			}
		}
		texts = longer
	}
	if read < 100 {
		t.Errorf("%d texts are read", read)
	}
}

// Batches that look like chance: their rows are read again, and no row is the beginning of another one.
func TestManyBatches(t *testing.T) {
	maker := numberMaker(1)
	var rows []string
	for range 3000 {
		b := Batch{Seq: uint64(1 + maker.below(300))}
		for range 1 + maker.below(4) {
			op := api.Op{Key: letters(1 + maker.below(3)), Value: letters(maker.below(4))}
			if maker.below(3) == 0 {
				op = api.Op{Key: op.Key, Gone: true}
			}
			b.Ops = append(b.Ops, op)
		}
		row, errno := Encode(b)
		if errno != api.OK || row != rowByWords(b) {
			t.Errorf("Encode: %x, %d; want %x", head(row), errno, head(rowByWords(b)))
		}
		wantDecode(t, row, b)
		rows = append(rows, row)
	}
	slices.Sort(rows)
	rows = slices.Compact(rows)
	// In order, a row stands right ahead of one of those that begin with it, if there are any.
	for i := 1; i < len(rows); i++ {
		if strings.HasPrefix(rows[i], rows[i-1]) {
			t.Errorf("%x is the beginning of %x", head(rows[i-1]), head(rows[i]))
		}
	}
}

// lies: does the memory of a text lie in that of another one?
func lies(text, in string) bool {
	if text == "" || in == "" {
		return false
	}
	begin, at := uintptr(unsafe.Pointer(unsafe.StringData(in))), uintptr(unsafe.Pointer(unsafe.StringData(text)))
	return begin <= at && at < begin+uintptr(len(in))
}

func TestDecodedIsMemoryOfItsOwn(t *testing.T) {
	b, row := example()
	one, _ := Decode(row)
	two, _ := Decode(row)
	for _, op := range one.Ops {
		if lies(op.Key, row) || lies(op.Value, row) {
			t.Errorf("%q, %q lie in the bytes that were read", op.Key, op.Value)
		}
	}
	one.Ops[0] = api.Op{Key: "other"}
	one.Ops = append(one.Ops[:1], api.Op{Key: "another"})
	wantSame(t, two.Ops, b.Ops)
	wantDecode(t, row, b)
}

func wantSame(t *testing.T, got, want []api.Op) {
	t.Helper()
	if !slices.Equal(got, want) {
		t.Errorf("operations: %v; want %v", got, want)
	}
}

func TestEntriesAreMemoryOfTheirOwn(t *testing.T) {
	b, _ := example()
	one, two := b.Entries(), b.Entries()
	for i, entry := range one {
		if lies(entry.Key, b.Ops[i].Key) || lies(entry.Value, b.Ops[i].Value) {
			t.Errorf("%q, %q lie in what was handed in", entry.Key, entry.Value)
		}
	}
	one[0].Key = "other"
	_ = append(one[:1], api.Entry{Key: "another"})
	b.Ops[1].Key = "changed"
	if !slices.Equal(two, []api.Entry{{Key: "a", Value: "x", Seq: 7}, {Key: "b", Seq: 8, Gone: true}}) {
		t.Errorf("entries: %v", two)
	}
}

func TestWhatIsHandedInStays(t *testing.T) {
	for _, count := range []int{1, 5, 16, 17} {
		whole := some(40)
		b := Batch{Seq: 9, Ops: whole[:count]}
		Check(b)
		Encode(b)
		b.Last()
		b.Entries()
		if b.Seq != 9 || len(b.Ops) != count {
			t.Errorf("the batch: %d, %d operations", b.Seq, len(b.Ops))
		}
		wantSame(t, whole, some(40))
	}
}
