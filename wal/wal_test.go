package wal

import (
	"fmt"
	"maps"
	"math"
	"slices"
	"strconv"
	"strings"
	"testing"
	"unsafe"

	"copyhold/api"
	"copyhold/batch"
	"copyhold/disk"
	"copyhold/frame"
)

// numberMaker: numbers that look like chance, the same ones in each run.
type numberMaker uint64

func (m *numberMaker) next() uint32 {
	*m = *m*6364136223846793005 + 1442695040888963407
	return uint32(*m >> 32)
}

// below: a number from 0 on, below n.
func (m *numberMaker) below(n int) int { return int(m.next()) % n }

// letters: a text of so many bytes, no two of which side by side are alike.
func letters(size int) string {
	b := make([]byte, size)
	for i := range b {
		b[i] = byte('a' + i%26)
	}
	return string(b)
}

// one: a batch of one operation that gives a key a value.
func one(seq uint64, key, value string) batch.Batch {
	return batch.Batch{Seq: seq, Ops: []api.Op{{Key: key, Value: value}}}
}

// small: the n-th of batches no two of which are alike; each has one cell.
func small(n int) batch.Batch { return one(uint64(n+1), "k"+strconv.Itoa(n%1000), "v") }

// middle: the n-th of batches of several operations, that have three cells.
func middle(n int) batch.Batch {
	return batch.Batch{Seq: uint64(n + 1), Ops: []api.Op{{Key: letters(20), Value: letters(30)}, {Key: "gone", Gone: true}}}
}

// greatest: one that has as many bytes as any.
func greatest() batch.Batch {
	op := api.Op{Key: letters(api.MaxKey), Value: letters(api.MaxValue)}
	return batch.Batch{Seq: 1<<63 - 15, Ops: slices.Repeat([]api.Op{op}, api.MaxOps)}
}

func wantErrno(t *testing.T, what string, got, want api.Errno) {
	t.Helper()
	if got != want {
		t.Errorf("%s: %d; want %d", what, got, want)
	}
}

// text: batches to be told, and held against one another.
func text(batches []batch.Batch) string {
	var out strings.Builder
	for _, b := range batches {
		out.WriteString(strconv.FormatUint(b.Seq, 10))
		for _, op := range b.Ops {
			fmt.Fprintf(&out, " %q=%q,%v", op.Key, op.Value, op.Gone)
		}
		out.WriteString("; ")
	}
	return out.String()
}

// head: so much of a text as a failure needs to show.
func head(s string) string { return s[:min(len(s), 200)] }

func wantReplay(t *testing.T, what string, d *disk.Disk, from uint64, want ...batch.Batch) {
	t.Helper()
	got, errno := Replay(d, from)
	if errno != api.OK || text(got) != text(want) {
		t.Errorf("%s: Replay from %d: %d batches (%s), %d; want %d (%s), OK", what, from, len(got), head(text(got)), errno, len(want), head(text(want)))
	}
}

func wantNoReplay(t *testing.T, what string, d *disk.Disk, want api.Errno) {
	t.Helper()
	for _, from := range []uint64{0, 1, 3, math.MaxUint64} {
		if got, errno := Replay(d, from); len(got) != 0 || errno != want {
			t.Errorf("%s: Replay from %d: %d batches, %d; want none, %d", what, from, len(got), errno, want)
		}
	}
}

func wantLogs(t *testing.T, what string, d *disk.Disk, want ...uint64) {
	t.Helper()
	if got := Logs(d); !slices.Equal(got, want) {
		t.Errorf("%s: Logs: %v; want %v", what, got, want)
	}
}

// wantSame: disks with the same files, tails, changes, room, fuse and power.
func wantSame(t *testing.T, what string, got, want *disk.Disk) {
	t.Helper()
	if !disk.Same(got, want) {
		t.Errorf("%s: the disk has %q, %d bytes, fuse %d, off %v; want %q, %d, %d, %v, or tails or changes are others", what,
			got.List(), got.Used(), got.Fused(), got.Down(), want.List(), want.Used(), want.Fused(), want.Down())
	}
}

// begin: a log that can be begun.
func begin(t *testing.T, d *disk.Disk, n uint64) *Log {
	t.Helper()
	l, errno := Begin(d, n)
	if l == nil || errno != api.OK {
		t.Fatalf("Begin of %d: %v, %d; want a log, OK", n, l, errno)
	}
	if l.N() != n {
		t.Errorf("N: %d; want %d", l.N(), n)
	}
	return l
}

// add: batches that can be added.
func add(t *testing.T, l *Log, batches ...batch.Batch) {
	t.Helper()
	for _, b := range batches {
		wantErrno(t, "Add", l.Add(b), api.OK)
	}
}

func wantNoBegin(t *testing.T, what string, d *disk.Disk, n uint64, want api.Errno) {
	t.Helper()
	if l, errno := Begin(d, n); l != nil || errno != want {
		t.Errorf("%s: Begin of %d: %v, %d; want nil, %d", what, n, l, errno, want)
	}
}

// What the calls do, by the words of the chapter, call by call of the disk.

// nameByWords: the word log, a point, and the number in eight digits or more.
func nameByWords(n uint64) string { return fmt.Sprintf("log.%08d", n) }

func beginByWords(d *disk.Disk, n uint64) api.Errno {
	if errno := d.Create(nameByWords(n)); errno != api.OK {
		return errno
	}
	return d.DirSync()
}

func addByWords(d *disk.Disk, n uint64, b batch.Batch) api.Errno {
	if errno := batch.Check(b); errno != api.OK {
		return errno
	}
	if errno := d.Append(nameByWords(n), frameOf(b)); errno != api.OK {
		return errno
	}
	return d.Sync(nameByWords(n))
}

func logsByWords(d *disk.Disk) []uint64 {
	var ns []uint64
	for _, name := range d.List() {
		n, err := strconv.ParseUint(strings.TrimPrefix(name, "log."), 10, 64)
		if err == nil && nameByWords(n) == name {
			ns = append(ns, n)
		}
	}
	slices.Sort(ns)
	return ns
}

func replayByWords(d *disk.Disk, from uint64) []batch.Batch {
	var batches []batch.Batch
	for _, n := range logsByWords(d) {
		data, _ := d.Read(nameByWords(n))
		records, _ := frame.Read(data)
		for _, record := range records {
			b, ok := batch.Decode(record)
			if n < from || !ok {
				break
			}
			batches = append(batches, b)
		}
	}
	return batches
}

func retireByWords(d *disk.Disk, before uint64) api.Errno {
	if d == nil {
		return api.ErrNil
	}
	if d.Down() {
		return api.ErrDown
	}
	for _, n := range logsByWords(d) {
		if n >= before {
			continue
		}
		if errno := d.Delete(nameByWords(n)); errno != api.OK {
			return errno
		}
	}
	return api.OK
}

// frameOf: the frame of a batch's bytes.
func frameOf(b batch.Batch) string {
	row, _ := batch.Encode(b)
	cells, _ := frame.Write(row)
	return cells
}

// framesOf: batches' frames, one behind the other.
func framesOf(batches ...batch.Batch) string {
	s := ""
	for _, b := range batches {
		s += frameOf(b)
	}
	return s
}

// put: a file with these bytes, that lasts.
func put(t *testing.T, d *disk.Disk, name, data string) {
	t.Helper()
	wantErrno(t, "Create of "+name, d.Create(name), api.OK)
	wantErrno(t, "Append to "+name, d.Append(name, data), api.OK)
	wantErrno(t, "Sync of "+name, d.Sync(name), api.OK)
	wantErrno(t, "DirSync", d.DirSync(), api.OK)
}

// numbers of logs, on both sides of where their names have one digit more.
func numbers() []uint64 {
	ns := []uint64{0, 1, 3, 9, 10, 255, 256, 12345678, 1 << 32, 1<<63 - 1, 1 << 63, math.MaxUint64 - 1, math.MaxUint64}
	for n := uint64(1e7); n < 1e19; n *= 10 {
		ns = append(ns, n-1, n, n+1)
	}
	ns = append(ns, 1e19-1, 1e19, 1e19+1)
	slices.Sort(ns)
	return slices.Compact(ns)
}

// The chapter's examples

func TestExamples(t *testing.T) {
	d := disk.New(api.MaxDisk)
	b := one(1, "a", "x")
	l := begin(t, d, 3)
	wantErrno(t, "Add", l.Add(b), api.OK)
	wantNoBegin(t, "again", d, 3, api.ErrThere)
	begin(t, d, 5)
	wantLogs(t, "two logs", d, 3, 5)
	wantReplay(t, "two logs", d, 0, b)
	wantReplay(t, "two logs", d, 4)
	wantErrno(t, "Add of a batch without operations", l.Add(batch.Batch{Seq: 2}), api.ErrArg)
	var none *Log
	wantErrno(t, "Add of a nil log", none.Add(b), api.ErrNil)
	wantErrno(t, "Retire", Retire(d, 5), api.OK)
	wantLogs(t, "behind Retire", d, 5)
	wantNoReplay(t, "of a nil disk", nil, api.ErrNil)
}

// P7.1

func TestBeginMakesAFileAndSyncsTheDirectory(t *testing.T) {
	for _, n := range numbers() {
		d, want := disk.New(api.MaxDisk), disk.New(api.MaxDisk)
		d.Fuse(9)
		want.Fuse(9)
		wantErrno(t, "by the chapter's words", beginByWords(want, n), api.OK)
		begin(t, d, n)
		wantSame(t, "Begin", d, want)
		if got := d.Fused(); got != 7 {
			t.Errorf("Begin of %d made %d operations; want 2", n, 9-got)
		}
		d.Crash(api.Crash{})
		d.Start()
		wantLogs(t, "behind a crash", d, n)
	}
}

// Changes of the directory that others made last, too.
func TestBeginSyncsWhatElseTheDirectoryHas(t *testing.T) {
	d := disk.New(api.MaxDisk)
	wantErrno(t, "Create", d.Create("other"), api.OK)
	begin(t, d, 1)
	d.Crash(api.Crash{})
	if got := d.List(); !slices.Equal(got, []string{"log.00000001", "other"}) {
		t.Errorf("names behind a crash: %q", got)
	}
}

func TestBeginOfALogThatIsThere(t *testing.T) {
	for _, n := range numbers() {
		d := disk.New(api.MaxDisk)
		add(t, begin(t, d, n), small(0))
		d.Fuse(5)
		twin := d.Twin()
		wantNoBegin(t, "again", d, n, api.ErrThere)
		wantSame(t, "Begin again", d, twin)
		wantReplay(t, "Begin again", d, 0, small(0))
	}
	d := disk.New(api.MaxDisk)
	put(t, d, "log.00000007", "not a log's bytes")
	wantNoBegin(t, "a file of another hand", d, 7, api.ErrThere)
	begin(t, d, 8)
}

func TestBeginBehindRetire(t *testing.T) {
	d := disk.New(api.MaxDisk)
	add(t, begin(t, d, 3), small(0))
	wantErrno(t, "Retire", Retire(d, 4), api.OK)
	add(t, begin(t, d, 3), small(1))
	wantReplay(t, "begun anew", d, 0, small(1))
}

func TestBeginWithoutRoom(t *testing.T) {
	for _, room := range []int{-1, 0, 1} {
		d := disk.New(room)
		l := begin(t, d, 1)
		wantLogs(t, "no room", d, 1)
		wantErrno(t, "Add without room", l.Add(small(0)), api.ErrFull)
	}
	d := disk.New(10)
	put(t, d, "all", letters(10))
	begin(t, d, 1)
}

func TestBeginWithPowerThatGoes(t *testing.T) {
	for fuse := 1; fuse <= 3; fuse++ {
		d, want := disk.New(100), disk.New(100)
		put(t, d, "other", "x")
		put(t, want, "other", "x")
		d.Fuse(fuse)
		want.Fuse(fuse)
		errno := beginByWords(want, 4)
		if fuse <= 2 {
			wantNoBegin(t, "the power goes", d, 4, api.ErrDown)
		} else {
			begin(t, d, 4)
		}
		if (errno == api.ErrDown) != (fuse <= 2) {
			t.Errorf("fuse %d: %d by the chapter's words", fuse, errno)
		}
		wantSame(t, "Begin while the power goes", d, want)
	}
}

// Which files there are behind a power failure in Begin: none ahead of the file's creation; with it, what the crash keeps.
func TestBeginBehindACrash(t *testing.T) {
	for fuse := 1; fuse <= 2; fuse++ {
		for names := -1; names <= 2; names++ {
			d := disk.New(100)
			d.Fuse(fuse)
			wantNoBegin(t, "the power goes", d, 4, api.ErrDown)
			d.Crash(api.Crash{Names: names})
			d.Start()
			if fuse == 2 && names >= 1 {
				wantLogs(t, "the name was kept", d, 4)
				wantNoBegin(t, "the name was kept", d, 4, api.ErrThere)
				begin(t, d, 5)
			} else {
				wantLogs(t, "no name was kept", d)
				begin(t, d, 4)
			}
			wantReplay(t, "behind a crash", d, 0)
		}
	}
}

func TestBeginWhileThePowerIsOff(t *testing.T) {
	d := disk.New(100)
	begin(t, d, 1)
	d.Fuse(7)
	d.Crash(api.Crash{})
	twin := d.Twin()
	for _, n := range []uint64{0, 1, 2, math.MaxUint64} {
		wantNoBegin(t, "the power is off", d, n, api.ErrDown)
	}
	wantSame(t, "the power is off", d, twin)
}

func TestNoDiskAndNoLog(t *testing.T) {
	for _, d := range []*disk.Disk{nil, new(disk.Disk)} {
		wantNoBegin(t, "no disk", d, 0, api.ErrNil)
		wantNoBegin(t, "no disk", d, math.MaxUint64, api.ErrNil)
		wantLogs(t, "no disk", d)
		wantNoReplay(t, "no disk", d, api.ErrNil)
		wantErrno(t, "Retire of no disk", Retire(d, 0), api.ErrNil)
		wantErrno(t, "Retire of no disk", Retire(d, math.MaxUint64), api.ErrNil)
	}
	for _, l := range []*Log{nil, new(Log)} {
		if got := l.N(); got != 0 {
			t.Errorf("N of no log: %d; want 0", got)
		}
		for _, b := range []batch.Batch{small(0), greatest()} {
			wantErrno(t, "Add to no log", l.Add(b), api.ErrNil)
		}
	}
	var none *Log
	for _, b := range []batch.Batch{{}, {Seq: 1}, one(1, letters(65), ""), one(0, "", "")} {
		wantErrno(t, "Add to a nil log of what may not be", none.Add(b), api.ErrNil)
	}
}

func TestLogsOfTwoDisks(t *testing.T) {
	c, d := disk.New(api.MaxDisk), disk.New(api.MaxDisk)
	k, l := begin(t, c, 1), begin(t, d, 1)
	add(t, k, small(0))
	add(t, l, small(1), small(2))
	wantReplay(t, "the first disk", c, 0, small(0))
	wantReplay(t, "the second disk", d, 0, small(1), small(2))
	twin := d.Twin()
	add(t, l, small(3))
	wantReplay(t, "the twin", twin, 0, small(1), small(2))
}

// P7.2

func TestAddAppendsAFrameAndSyncs(t *testing.T) {
	for _, n := range numbers() {
		d := disk.New(api.MaxDisk)
		l := begin(t, d, n)
		d.Fuse(100)
		want := d.Twin()
		var added []batch.Batch
		for i, b := range []batch.Batch{small(0), middle(1), greatest(), small(0), one(1<<63, "k", "")} {
			add(t, l, b)
			wantErrno(t, "by the chapter's words", addByWords(want, n, b), api.OK)
			wantSame(t, "Add", d, want)
			added = append(added, b)
			wantReplay(t, "Add", d, 0, added...)
			if got := d.Fused(); got != 100-2*(i+1) {
				t.Errorf("%d times Add made %d operations; want two each", i+1, 100-got)
			}
		}
		data, _ := d.Read(nameByWords(n))
		if data != framesOf(added...) {
			t.Errorf("the file has %d bytes; want %d, or others", len(data), len(framesOf(added...)))
		}
		d.Crash(api.Crash{})
		d.Start()
		wantReplay(t, "behind a crash", d, 0, added...)
	}
}

// oneOp: a batch with one operation.
func oneOp(op api.Op) batch.Batch { return batch.Batch{Seq: 1, Ops: []api.Op{op}} }

func TestAddOfBatchesOnTheEdges(t *testing.T) {
	full := slices.Repeat([]api.Op{{Key: "k"}}, 17)
	for _, x := range []struct {
		b    batch.Batch
		want api.Errno
	}{
		{batch.Batch{}, api.ErrArg}, {batch.Batch{Seq: 1}, api.ErrArg}, {batch.Batch{Seq: 1, Ops: []api.Op{}}, api.ErrArg},
		{one(0, "k", "v"), api.ErrArg}, {one(1, "k", "v"), api.OK}, {one(1<<63, "k", "v"), api.OK}, {one(1<<63+1, "k", "v"), api.ErrArg}, {one(math.MaxUint64, "k", "v"), api.ErrArg},
		{batch.Batch{Seq: 1<<63 - 15, Ops: full[:16]}, api.OK}, {batch.Batch{Seq: 1<<63 - 14, Ops: full[:16]}, api.ErrArg},
		{batch.Batch{Seq: 1, Ops: full[:16]}, api.OK}, {batch.Batch{Seq: 1, Ops: full}, api.ErrLong}, {batch.Batch{Ops: full}, api.ErrLong},
		{one(1, "", "v"), api.ErrArg}, {one(1, letters(64), "v"), api.OK}, {one(1, letters(65), "v"), api.ErrLong}, {one(0, letters(65), "v"), api.ErrLong},
		{one(1, "k", ""), api.OK}, {one(1, "k", letters(512)), api.OK}, {one(1, "k", letters(513)), api.ErrLong},
		{oneOp(api.Op{Key: "k", Gone: true}), api.OK}, {oneOp(api.Op{Key: "k", Value: "v", Gone: true}), api.ErrArg},
		{oneOp(api.Op{Gone: true}), api.ErrArg}, {oneOp(api.Op{Key: letters(65), Gone: true}), api.ErrLong},
		{greatest(), api.OK},
	} {
		d := disk.New(api.MaxDisk)
		l := begin(t, d, 1)
		add(t, l, small(0))
		d.Fuse(5)
		twin := d.Twin()
		wantErrno(t, "Add on an edge", l.Add(x.b), x.want)
		if x.want == api.OK {
			wantReplay(t, "an edge", d, 0, small(0), x.b)
			continue
		}
		wantSame(t, "Add of what may not be", d, twin)
		// What may not be is told ahead of what the disk says.
		d.Fuse(1)
		wantErrno(t, "Add on an edge, with a fuse of 1", l.Add(x.b), x.want)
		d.Crash(api.Crash{})
		wantErrno(t, "Add on an edge while the power is off", l.Add(x.b), x.want)
		d.Start()
		d.Fuse(0)
		wantErrno(t, "Retire", Retire(d, 2), api.OK)
		wantErrno(t, "Add on an edge to a log that is gone", l.Add(x.b), x.want)
	}
}

func TestAddWithoutRoom(t *testing.T) {
	for _, b := range []batch.Batch{small(1), middle(1), greatest()} {
		size := len(frameOf(small(0))) + len(frameOf(b))
		for _, room := range []int{size - 1, size - 31, size - len(frameOf(b)), size, size + 1} {
			d := disk.New(room)
			l := begin(t, d, 1)
			add(t, l, small(0))
			d.Fuse(3)
			twin := d.Twin()
			if room >= size {
				wantErrno(t, "Add just with room", l.Add(b), api.OK)
				wantReplay(t, "just with room", d, 0, small(0), b)
				continue
			}
			wantErrno(t, "Add without room", l.Add(b), api.ErrFull)
			wantSame(t, "Add without room", d, twin)
			wantReplay(t, "without room", d, 0, small(0))
		}
	}
}

// Room that others take counts, and what goes makes room.
func TestAddBehindRoomThatComes(t *testing.T) {
	d := disk.New(64)
	k := begin(t, d, 1)
	add(t, k, small(0), small(1))
	l := begin(t, d, 2)
	wantErrno(t, "Add without room", l.Add(small(2)), api.ErrFull)
	wantErrno(t, "Retire", Retire(d, 2), api.OK)
	add(t, l, small(2), small(3))
	wantErrno(t, "Add without room", l.Add(small(4)), api.ErrFull)
	wantReplay(t, "room came", d, 0, small(2), small(3))
}

func TestAddToAFileOfAnotherHand(t *testing.T) {
	name := nameByWords(6)
	d := disk.New(api.MaxDisk)
	l := begin(t, d, 6)
	add(t, l, small(0))
	wantErrno(t, "Delete", d.Delete(name), api.OK)
	d.Fuse(9)
	twin := d.Twin()
	wantErrno(t, "Add to a log that is gone", l.Add(small(1)), api.ErrNone)
	wantSame(t, "a log that is gone", d, twin)
	d.Fuse(0)
	if l.N() != 6 {
		t.Errorf("N of a log that is gone: %d; want 6", l.N())
	}
	wantErrno(t, "Create", d.Create(name), api.OK)
	add(t, l, small(2))
	wantReplay(t, "a file made anew", d, 0, small(2))
	wantErrno(t, "Rename", d.Rename(name, "elsewhere"), api.OK)
	wantErrno(t, "Add to a log with another name", l.Add(small(3)), api.ErrNone)
	wantErrno(t, "Rename", d.Rename("elsewhere", name), api.OK)
	add(t, l, small(4))
	wantReplay(t, "a file that came back", d, 0, small(2), small(4))
	// Bytes of another hand in between: what is behind them isn't the log's any more.
	wantErrno(t, "Append", d.Append(name, "x"), api.OK)
	add(t, l, small(5))
	wantReplay(t, "bytes of another hand", d, 0, small(2), small(4))
	data, _ := d.Read(name)
	if data != framesOf(small(2), small(4))+"x"+frameOf(small(5)) {
		t.Errorf("the file has %d bytes, or others", len(data))
	}
}

func TestAddSyncsWhatElseTheFileHas(t *testing.T) {
	d := disk.New(api.MaxDisk)
	l := begin(t, d, 1)
	other := begin(t, d, 2)
	wantErrno(t, "Append", d.Append(nameByWords(1), frameOf(small(0))), api.OK)
	add(t, l, small(1))
	wantErrno(t, "Append", d.Append(nameByWords(1), frameOf(small(2))), api.OK)
	add(t, other, small(3))
	d.Crash(api.Crash{})
	d.Start()
	wantReplay(t, "one was not synced", d, 0, small(0), small(1), small(3))
}

func TestAddWhileThePowerIsOff(t *testing.T) {
	d := disk.New(api.MaxDisk)
	l := begin(t, d, 1)
	add(t, l, small(0))
	d.Fuse(5)
	d.Crash(api.Crash{})
	twin := d.Twin()
	wantErrno(t, "Add while the power is off", l.Add(small(1)), api.ErrDown)
	wantErrno(t, "Add while the power is off", l.Add(greatest()), api.ErrDown)
	wantSame(t, "the power is off", d, twin)
	if l.N() != 1 {
		t.Errorf("N while the power is off: %d; want 1", l.N())
	}
	d.Start()
	add(t, l, small(2))
	wantReplay(t, "the power is on again", d, 0, small(0), small(2))
}

func TestAddWithPowerThatGoes(t *testing.T) {
	for fuse := 1; fuse <= 3; fuse++ {
		d := disk.New(api.MaxDisk)
		l := begin(t, d, 1)
		add(t, l, small(0))
		d.Fuse(fuse)
		want := d.Twin()
		got := l.Add(middle(1))
		wantErrno(t, "Add while the power goes", got, addByWords(want, 1, middle(1)))
		if (got == api.ErrDown) != (fuse <= 2) {
			t.Errorf("fuse %d: Add: %d", fuse, got)
		}
		wantSame(t, "Add while the power goes", d, want)
	}
}

func TestWhatIsAddedStays(t *testing.T) {
	d := disk.New(api.MaxDisk)
	l := begin(t, d, 1)
	whole := []api.Op{{Key: "a", Value: "1"}, {Key: "b", Value: "2"}, {Key: "c", Gone: true}, {Key: "spare"}}
	b := batch.Batch{Seq: 4, Ops: whole[:3]}
	add(t, l, b)
	if b.Seq != 4 || !slices.Equal(whole, []api.Op{{Key: "a", Value: "1"}, {Key: "b", Value: "2"}, {Key: "c", Gone: true}, {Key: "spare"}}) {
		t.Errorf("what was handed in was changed: %v", whole)
	}
	whole[0] = api.Op{Key: "other"}
	wantReplay(t, "what was handed in was not kept", d, 0, batch.Batch{Seq: 4, Ops: []api.Op{{Key: "a", Value: "1"}, {Key: "b", Value: "2"}, {Key: "c", Gone: true}}})
}

// P7.3

func TestLogsByTheirNumbers(t *testing.T) {
	ns := numbers()
	maker := numberMaker(1)
	for range 20 {
		d := disk.New(api.MaxDisk)
		order := slices.Clone(ns)
		for i := range order {
			j := maker.below(i + 1)
			order[i], order[j] = order[j], order[i]
		}
		batches := map[uint64]batch.Batch{}
		for i, n := range order {
			batches[n] = small(i)
			add(t, begin(t, d, n), batches[n])
		}
		wantLogs(t, "in any order", d, ns...)
		var want []batch.Batch
		for _, n := range ns {
			want = append(want, batches[n])
		}
		for i, n := range ns {
			wantReplay(t, "from a log's number", d, n, want[i:]...)
			if n > 0 && !slices.Contains(ns, n-1) {
				wantReplay(t, "from one below", d, n-1, want[i:]...)
			}
			if n < math.MaxUint64 {
				wantReplay(t, "from one above", d, n+1, want[i+1:]...)
			}
		}
		d.Crash(api.Crash{})
		wantLogs(t, "while the power is off", d, ns...)
	}
}

func TestLogsOfNoFile(t *testing.T) {
	d := disk.New(100)
	wantLogs(t, "no file", d)
	wantReplay(t, "no file", d, 0)
	wantErrno(t, "Retire of no file", Retire(d, math.MaxUint64), api.OK)
	d.Crash(api.Crash{})
	wantLogs(t, "the power is off", d)
}

// others: names beside those of logs, or close to them.
func others() []string {
	return []string{
		"log", "log.", "log.1", "log.0000001", "log.000000001", "log.0000000a", "log.a0000001", "log.00000001.", "log.0000-001", "log.-0000001",
		"log-00000001", "log00000001", ".00000001", "00000001", "logs.00000001", "alog.00000001", "log.log.00000001", "table.00000001", "lo.00000001",
		"log.18446744073709551616", "log.99999999999999999999", "log.01844674407370955161", "log.00000000000000000001",
	}
}

func TestNamesThatAreNoLogs(t *testing.T) {
	d := disk.New(api.MaxDisk)
	for i, name := range others() {
		put(t, d, name, frameOf(small(i)))
	}
	wantLogs(t, "no log", d)
	wantReplay(t, "no log", d, 0)
	twin := d.Twin()
	wantErrno(t, "Retire of no log", Retire(d, math.MaxUint64), api.OK)
	wantSame(t, "Retire of no log", d, twin)
	add(t, begin(t, d, 1), small(100))
	add(t, begin(t, d, math.MaxUint64), small(101))
	wantLogs(t, "logs beside others", d, 1, math.MaxUint64)
	wantReplay(t, "logs beside others", d, 0, small(100), small(101))
	wantErrno(t, "Retire beside others", Retire(d, math.MaxUint64), api.OK)
	want := append(others(), nameByWords(math.MaxUint64))
	slices.Sort(want)
	if got := d.List(); !slices.Equal(got, want) {
		t.Errorf("names behind Retire: %q; want %q", got, want)
	}
}

// A file is a log's by its name, whoever made it.
func TestLogsOfAnotherHand(t *testing.T) {
	d := disk.New(api.MaxDisk)
	put(t, d, "log.00000002", framesOf(small(0), middle(1)))
	put(t, d, "log.100000000", frameOf(small(2)))
	wantLogs(t, "of another hand", d, 2, 100000000)
	wantReplay(t, "of another hand", d, 0, small(0), middle(1), small(2))
	wantErrno(t, "Rename", d.Rename("log.00000002", "log.200000000"), api.OK)
	wantReplay(t, "renamed", d, 0, small(2), small(0), middle(1))
	wantErrno(t, "Retire", Retire(d, 200000000), api.OK)
	wantReplay(t, "behind Retire", d, 0, small(0), middle(1))
}

// What is not synced is there as well, as long as no crash takes it.
func TestReplayOfTails(t *testing.T) {
	d := disk.New(api.MaxDisk)
	wantErrno(t, "Create", d.Create(nameByWords(1)), api.OK)
	wantErrno(t, "Append", d.Append(nameByWords(1), frameOf(small(0))), api.OK)
	wantReplay(t, "a tail", d, 0, small(0))
	d.Crash(api.Crash{Names: 1})
	d.Start()
	wantLogs(t, "no tail", d, 1)
	wantReplay(t, "no tail", d, 0)
}

// Files cut at each place: batches whose frames are whole ahead of it are told, and those of the next log.
func TestReplayOfFilesThatAreCut(t *testing.T) {
	batches := []batch.Batch{small(0), middle(1), small(2)}
	whole := framesOf(batches...)
	for at := range len(whole) + 1 {
		d := disk.New(api.MaxDisk)
		put(t, d, nameByWords(1), whole[:at])
		put(t, d, nameByWords(2), frameOf(small(9)))
		count := 0
		for count < len(batches) && len(framesOf(batches[:count+1]...)) <= at {
			count++
		}
		wantReplay(t, "cut", d, 0, append(slices.Clone(batches[:count]), small(9))...)
		// Nor is what stands behind the cut another batch of the log.
		if at%32 == 0 {
			continue
		}
		wantErrno(t, "Append", d.Append(nameByWords(1), frameOf(small(5))), api.OK)
		wantReplay(t, "cut, with a batch behind", d, 0, append(slices.Clone(batches[:count]), small(9))...)
	}
}

func TestReplayOfFilesWithBytesTurned(t *testing.T) {
	batches := []batch.Batch{small(0), middle(1), small(2)}
	whole := framesOf(batches...)
	for at := range len(whole) {
		for _, mask := range []string{"\x01", "\x80", "\xff", "\x01\x01", "\x00\xff", "\xff\xff\xff", "\x01\x00\x00\x80", "\xff\xff\xff\xff"} {
			data := []byte(whole)
			changed := len(data)
			for i := range min(len(mask), len(data)-at) {
				data[at+i] ^= mask[i]
				if mask[i] != 0 {
					changed = min(changed, at+i)
				}
			}
			d := disk.New(api.MaxDisk)
			put(t, d, nameByWords(1), string(data))
			put(t, d, nameByWords(2), frameOf(small(9)))
			count := 0
			for count < len(batches) && len(framesOf(batches[:count+1]...)) <= changed {
				count++
			}
			wantReplay(t, "turned", d, 0, append(slices.Clone(batches[:count]), small(9))...)
		}
	}
}

// A whole frame of what is no batch's bytes ends a log's batches, and no other log's.
func TestReplayOfRecordsThatAreNoBatches(t *testing.T) {
	row, _ := batch.Encode(middle(3))
	for _, record := range []string{
		"", "\x00", "no batch", letters(100), row[:len(row)-1], row + "\x00", "\x01\x00", "\x00\x01\x00\x01k\x00", "\x01\x01\x00\x00\x00", letters(9000),
	} {
		cells, errno := frame.Write(record)
		if errno != api.OK {
			t.Fatalf("Write: %d", errno)
		}
		for _, x := range []struct {
			data string
			want []batch.Batch
		}{
			{cells, nil},
			{cells + frameOf(small(1)), nil},
			{frameOf(small(0)) + cells, []batch.Batch{small(0)}},
			{frameOf(small(0)) + cells + framesOf(small(1), small(2)), []batch.Batch{small(0)}},
			{framesOf(small(0), small(1)) + cells + framesOf(small(2)) + cells, []batch.Batch{small(0), small(1)}},
		} {
			d := disk.New(api.MaxDisk)
			put(t, d, nameByWords(1), x.data)
			put(t, d, nameByWords(2), frameOf(small(9)))
			wantReplay(t, "a record that is no batch", d, 0, append(x.want, small(9))...)
			wantReplay(t, "a record that is no batch", d, 2, small(9))
		}
	}
}

func TestReplayWhileThePowerIsOff(t *testing.T) {
	d := disk.New(api.MaxDisk)
	add(t, begin(t, d, 3), small(0))
	empty := disk.New(api.MaxDisk)
	for _, x := range []*disk.Disk{d, empty} {
		x.Crash(api.Crash{})
		x.Fuse(3)
		twin := x.Twin()
		wantNoReplay(t, "the power is off", x, api.ErrDown)
		for _, before := range []uint64{0, 1, 3, 4, math.MaxUint64} {
			wantErrno(t, "Retire while the power is off", Retire(x, before), api.ErrDown)
		}
		wantSame(t, "the power is off", x, twin)
	}
	wantLogs(t, "the power is off", d, 3)
	d.Start()
	wantReplay(t, "the power is on", d, 0, small(0))
}

func TestLogsAndReplayChangeNothing(t *testing.T) {
	d := disk.New(api.MaxDisk)
	add(t, begin(t, d, 3), small(0), middle(1))
	add(t, begin(t, d, 100000000), small(2))
	wantErrno(t, "Append", d.Append(nameByWords(3), "a tail"), api.OK)
	wantErrno(t, "Create", d.Create("other"), api.OK)
	d.Fuse(1)
	twin := d.Twin()
	for range 3 {
		wantLogs(t, "again", d, 3, 100000000)
		wantReplay(t, "again", d, 0, small(0), middle(1), small(2))
		wantReplay(t, "again", d, 4, small(2))
		wantReplay(t, "from above all", d, 100000001)
		wantReplay(t, "from above all", d, math.MaxUint64)
		wantSame(t, "Logs and Replay", d, twin)
	}
}

// lies: does the memory of a text lie in that of another one?
func lies(text, in string) bool {
	if text == "" || in == "" {
		return false
	}
	begin, at := uintptr(unsafe.Pointer(unsafe.StringData(in))), uintptr(unsafe.Pointer(unsafe.StringData(text)))
	return begin <= at && at < begin+uintptr(len(in))
}

func TestAnswersAreMemoryOfTheirOwn(t *testing.T) {
	d := disk.New(api.MaxDisk)
	given := middle(0)
	l := begin(t, d, 1)
	add(t, l, given, given)
	begin(t, d, 2)
	ns := Logs(d)
	ns[0] = 77
	_ = append(ns[:1], 78)
	wantLogs(t, "lists that were changed", d, 1, 2)
	got, _ := Replay(d, 0)
	more, _ := Replay(d, 0)
	for i, b := range got {
		for j, op := range b.Ops {
			if lies(op.Key, given.Ops[j].Key) || lies(op.Value, given.Ops[j].Value) {
				t.Errorf("batch %d, operation %d lies in what was added", i, j)
			}
		}
	}
	got[0].Ops[0] = api.Op{Key: "other"}
	got[0].Ops = append(got[0].Ops, api.Op{Key: "more"}, api.Op{Key: "still more"})
	_ = append(got[0].Ops[:1], api.Op{Key: "another"})
	if text(got[1:]) != text([]batch.Batch{given}) || text(more) != text([]batch.Batch{given, given}) {
		t.Errorf("what was changed in one batch is to be seen in another one: %s, %s", head(text(got[1:])), head(text(more)))
	}
	got = append(got[:0], batch.Batch{}, batch.Batch{})
	wantReplay(t, "lists that were changed", d, 0, given, given)
	if len(got) != 2 {
		t.Errorf("%d batches", len(got))
	}
}

func TestRetire(t *testing.T) {
	ns := []uint64{2, 5, 99999999, 100000000, 1 << 40, math.MaxUint64}
	for _, before := range []uint64{0, 1, 2, 3, 5, 6, 99999998, 99999999, 100000000, 100000001, 1 << 40, 1<<40 + 1, math.MaxUint64 - 1, math.MaxUint64} {
		d := disk.New(api.MaxDisk)
		for i, n := range ns {
			add(t, begin(t, d, n), small(i))
		}
		put(t, d, "other", "x")
		d.Fuse(50)
		want := d.Twin()
		wantErrno(t, "Retire", Retire(d, before), retireByWords(want, before))
		wantSame(t, "Retire", d, want)
		gone := 0
		for gone < len(ns) && ns[gone] < before {
			gone++
		}
		wantLogs(t, "behind Retire", d, ns[gone:]...)
		if got := 50 - d.Fused(); got != gone {
			t.Errorf("Retire of %d logs made %d operations", gone, got)
		}
		wantErrno(t, "Retire again", Retire(d, before), api.OK)
		wantSame(t, "Retire again", d, want)
	}
}

// A log may be gone on with, though those below it are gone.
func TestAddBehindRetire(t *testing.T) {
	d := disk.New(api.MaxDisk)
	k, l := begin(t, d, 1), begin(t, d, 2)
	add(t, k, small(0))
	add(t, l, small(1))
	wantErrno(t, "Retire", Retire(d, 2), api.OK)
	wantErrno(t, "Add to a log that is gone", k.Add(small(2)), api.ErrNone)
	add(t, l, small(3))
	wantReplay(t, "behind Retire", d, 0, small(1), small(3))
}

// The power goes at each of the deletions: those ahead of it are done, in the order of numbers, and none is synced.
func TestRetireWithPowerThatGoes(t *testing.T) {
	// By their names the greatest number stands first.
	ns := []uint64{99999998, 99999999, 100000000}
	for fuse := 1; fuse <= 4; fuse++ {
		for names := range 5 {
			d := disk.New(api.MaxDisk)
			for i, n := range ns {
				add(t, begin(t, d, n), small(i))
			}
			add(t, begin(t, d, 200000000), small(3))
			d.Fuse(fuse)
			want := d.Twin()
			errno := retireByWords(want, 200000000)
			wantErrno(t, "Retire while the power goes", Retire(d, 200000000), errno)
			if (errno == api.ErrDown) != (fuse <= 3) {
				t.Errorf("fuse %d: %d by the chapter's words", fuse, errno)
			}
			wantSame(t, "Retire while the power goes", d, want)
			left := append(slices.Clone(ns[fuse-1:]), 200000000)
			wantLogs(t, "ahead of the crash", d, left...)
			d.Crash(api.Crash{Names: names})
			d.Start()
			d.Fuse(0)
			kept := min(names, fuse-1)
			wantLogs(t, "behind the crash", d, append(slices.Clone(ns[kept:]), 200000000)...)
			wantReplay(t, "behind the crash", d, 0, []batch.Batch{small(0), small(1), small(2), small(3)}[kept:]...)
			wantErrno(t, "Retire again", Retire(d, 200000000), api.OK)
			wantLogs(t, "behind Retire again", d, 200000000)
			wantReplay(t, "behind Retire again", d, 0, small(3))
		}
	}
}

// Calls in any order, by several logs, and by other hands: the disk is, operation by operation, what the chapter's words make of it.
func TestManyCalls(t *testing.T) {
	for seed := range 300 {
		maker := numberMaker(seed)
		d := disk.New(1 << (7 + maker.below(6)))
		want := d.Twin()
		logs := map[uint64]*Log{}
		for i := range 60 {
			n := []uint64{0, 1, 2, 7, 99999999, 100000000, math.MaxUint64}[maker.below(7)]
			switch maker.below(10) {
			case 0, 1:
				l, errno := Begin(d, n)
				wantErrno(t, "Begin", errno, beginByWords(want, n))
				if l != nil {
					logs[n] = l
				}
			case 2, 3, 4, 5:
				if l := logs[n]; l != nil {
					b := []batch.Batch{small(i), middle(i), {}}[maker.below(3)]
					wantErrno(t, "Add", l.Add(b), addByWords(want, n, b))
				}
			case 6:
				wantErrno(t, "Retire", Retire(d, n), retireByWords(want, n))
			case 7:
				size := maker.below(40)
				d.Append(nameByWords(n), letters(size))
				want.Append(nameByWords(n), letters(size))
			case 8:
				k := maker.below(6)
				d.Fuse(k)
				want.Fuse(k)
			case 9:
				c := api.Crash{Names: maker.below(3), Keep: []int{maker.below(99), maker.below(99)}, Spoil: []api.Spot{{At: maker.below(99), Mask: maker.next()}}}
				d.Crash(c)
				want.Crash(c)
			}
			wantSame(t, "many calls", d, want)
			wantLogs(t, "many calls", d, logsByWords(want)...)
			if d.Down() {
				wantNoReplay(t, "many calls", d, api.ErrDown)
				d.Start()
				want.Start()
			}
			wantReplay(t, "many calls", d, n, replayByWords(want, n)...)
		}
		if t.Failed() {
			t.Fatalf("seed %d", seed)
		}
	}
}

// P7.4

// keeper adds batches to logs as the promise has it, and knows what was told.
type keeper struct {
	t       *testing.T
	d       *disk.Disk
	log     *Log // nil behind a crash, till the next one is begun
	told    []batch.Batch
	pending *batch.Batch // its Add answered ErrDown
	made    int
}

func newKeeper(t *testing.T) *keeper { return &keeper{t: t, d: disk.New(api.MaxDisk)} }

// begin begins a log above those that are there.
func (k *keeper) begin(above uint64) {
	k.t.Helper()
	n := above
	if ns := Logs(k.d); len(ns) > 0 {
		n = ns[len(ns)-1] + 1 + above
	}
	l, errno := Begin(k.d, n)
	if errno == api.OK {
		k.log = l
	} else if errno != api.ErrDown || l != nil {
		k.t.Errorf("Begin of %d: %v, %d", n, l, errno)
	}
}

// add adds one more batch, of one cell, of three, or of many.
func (k *keeper) add(kind int) {
	k.t.Helper()
	b := []batch.Batch{small(k.made), middle(k.made), one(uint64(k.made+1), letters(9), letters(200))}[kind]
	k.made++
	switch errno := k.log.Add(b); errno {
	case api.OK:
		k.told = append(k.told, b)
	case api.ErrDown:
		k.pending = &b
	default:
		k.t.Errorf("Add: %d", errno)
	}
}

// crash: what is replayed then is what was told, or that and, behind it, the pending one, whole.
func (k *keeper) crash(what string, c api.Crash) {
	k.t.Helper()
	k.d.Crash(c)
	k.d.Start()
	k.log = nil
	got, errno := Replay(k.d, 0)
	if errno != api.OK {
		k.t.Errorf("%s: Replay: %d", what, errno)
	}
	if k.pending != nil && len(got) == len(k.told)+1 {
		k.told = append(k.told, *k.pending)
	}
	k.pending = nil
	if text(got) != text(k.told) {
		k.t.Errorf("%s: %d batches are replayed (%s); %d were told (%s)", what, len(got), head(text(got)), len(k.told), head(text(k.told)))
	}
}

// crashes: those that keep nothing, everything, or a part of what a tail of so many bytes has, cut and turned.
func crashes(tail int) []api.Crash {
	var out []api.Crash
	for names := range 3 {
		out = append(out, api.Crash{Names: names}, api.Crash{Names: names, Keep: []int{math.MaxInt, math.MaxInt}})
	}
	for keep := range tail + 2 {
		out = append(out, api.Crash{Names: 9, Keep: []int{keep}})
		for _, mask := range []uint32{1, 0x80, 0xff, 0x01000000, 0x80000001, 0xffffffff} {
			out = append(out, api.Crash{Names: 9, Keep: []int{keep}, Spoil: []api.Spot{{At: keep / 2, Mask: mask}}})
		}
	}
	for at := -tail; at < tail; at += 5 {
		for _, mask := range []uint32{1, 0xff00, 0xff000000, 0xffffffff} {
			out = append(out, api.Crash{Names: 9, Keep: []int{tail}, Spoil: []api.Spot{{At: at, Mask: mask}}})
		}
	}
	return out
}

// The power goes at each single operation of two logs' work; a crash of each kind; then the work goes on, with a crash behind it.
func TestWhatWasToldLasts(t *testing.T) {
	work := func(k *keeper, kind int) {
		for range 2 {
			if k.d.Down() {
				return
			}
			k.begin(0)
			for i := range 2 {
				if !k.d.Down() {
					k.add((kind + i) % 2)
				}
			}
		}
	}
	for kind := range 2 {
		for fuse := 1; fuse <= 13; fuse++ {
			for _, c := range crashes(96) {
				k := newKeeper(t)
				k.d.Fuse(fuse)
				work(k, kind)
				if k.d.Down() != (fuse <= 12) {
					t.Fatalf("fuse %d: off %v", fuse, k.d.Down())
				}
				what := fmt.Sprintf("kind %d, fuse %d, crash %+v", kind, fuse, c)
				k.crash(what, c)
				k.d.Fuse(0)
				work(k, kind)
				k.crash(what+", a crash behind it", api.Crash{})
				if len(k.told) < 4 {
					t.Errorf("%s: %d batches were told", what, len(k.told))
				}
			}
		}
	}
}

// Just when the batch at whose Add the power went is there: its frame was appended, and is kept whole, as it was.
func TestWhenThePendingBatchIsThere(t *testing.T) {
	size := len(frameOf(middle(1)))
	for fuse := 1; fuse <= 2; fuse++ {
		for keep := -1; keep <= size+1; keep++ {
			for _, mask := range []uint32{0, 1, 0x01000000} {
				for _, at := range []int{0, 31, size / 2, size - 4, size - 3, size - 1, -1, -4} {
					d := disk.New(api.MaxDisk)
					l := begin(t, d, 1)
					add(t, l, small(0))
					d.Fuse(fuse)
					wantErrno(t, "Add while the power goes", l.Add(middle(1)), api.ErrDown)
					d.Crash(api.Crash{Keep: []int{keep}, Spoil: []api.Spot{{At: at, Mask: mask}}})
					d.Start()
					// Behind the end of what is kept there is nothing to turn.
					place := (at + size) % size
					turned := mask == 1 || mask == 0x01000000 && place+3 < size
					if fuse == 2 && keep >= size && !turned {
						wantReplay(t, "kept whole", d, 0, small(0), middle(1))
					} else {
						wantReplay(t, fmt.Sprintf("fuse %d, keep %d, mask %x at %d", fuse, keep, mask, at), d, 0, small(0))
					}
				}
			}
		}
	}
}

// Crash behind crash, at operations that look like chance.
func TestWhatWasToldLastsOverManyCrashes(t *testing.T) {
	pending := 0
	for seed := range 400 {
		maker := numberMaker(1000 + seed)
		k := newKeeper(t)
		for range 8 {
			k.d.Fuse(maker.below(14))
			for range 1 + maker.below(8) {
				switch {
				case k.d.Down():
				case k.log == nil || maker.below(5) == 0:
					k.begin([]uint64{0, 1, 99999990}[maker.below(3)])
				default:
					k.add(maker.below(3))
				}
			}
			if k.pending != nil {
				pending++
			}
			c := api.Crash{Names: maker.below(3), Keep: []int{maker.below(400), maker.below(400)}}
			if maker.below(2) == 0 {
				c.Spoil = []api.Spot{{At: maker.below(500) - 250, Mask: maker.next()}, {At: maker.below(500), Mask: 1 << maker.below(32)}}
			}
			k.crash(fmt.Sprintf("seed %d", seed), c)
			// Another crash at once changes nothing.
			k.crash(fmt.Sprintf("seed %d, once more", seed), api.Crash{Names: 1, Keep: []int{5, 5, 5}})
		}
	}
	if pending < 100 {
		t.Errorf("the power went in Add %d times", pending)
	}
}

// Also where logs are retired, those that stay tell what was told of them; those that are gone are there whole again, or not at all.
func TestWhatWasToldLastsBesideRetire(t *testing.T) {
	for seed := range 200 {
		maker := numberMaker(5000 + seed)
		d := disk.New(api.MaxDisk)
		told := map[uint64][]batch.Batch{}
		next := uint64(99999990)
		for round := range 6 {
			d.Fuse(0)
			for range 1 + maker.below(3) {
				l := begin(t, d, next)
				for i := range maker.below(3) {
					b := small(100*round + 10*int(next%10) + i)
					add(t, l, b)
					told[next] = append(told[next], b)
				}
				next += 1 + uint64(maker.below(5))
			}
			d.Fuse(1 + maker.below(4))
			before := next - uint64(maker.below(12))
			Retire(d, before)
			d.Crash(api.Crash{Names: maker.below(4)})
			d.Start()
			var want []batch.Batch
			ns := Logs(d)
			for _, n := range ns {
				want = append(want, told[n]...)
			}
			wantReplay(t, fmt.Sprintf("seed %d", seed), d, 0, want...)
			for _, n := range slices.Sorted(maps.Keys(told)) {
				if n >= before && !slices.Contains(ns, n) {
					t.Errorf("seed %d: the log %d is gone, though only those below %d were retired", seed, n, before)
				}
				if !slices.Contains(ns, n) {
					delete(told, n)
				}
			}
		}
	}
}
