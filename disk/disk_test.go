package disk

import (
	"fmt"
	"maps"
	"math"
	"slices"
	"strings"
	"testing"

	"copyhold/api"
)

// numberMaker: numbers that look like chance, the same ones in each run.
type numberMaker uint64

func (m *numberMaker) next() uint32 {
	*m = *m*6364136223846793005 + 1442695040888963407
	return uint32(*m >> 32)
}

// below: a number from 0 on, below n.
func (m *numberMaker) below(n int) int { return int(m.next()) % n }

// letters: a text of so many bytes, no two of which side by side are alike.
func letters(size int) string {
	b := make([]byte, size)
	for i := range b {
		b[i] = byte('a' + i%26)
	}
	return string(b)
}

// head: so much of a text as a failure needs to show.
func head(s string) string { return s[:min(len(s), 40)] }

func wantErrno(t *testing.T, what string, got, want api.Errno) {
	t.Helper()
	if got != want {
		t.Errorf("%s: %d; want %d", what, got, want)
	}
}

func wantRead(t *testing.T, d *Disk, name, want string) {
	t.Helper()
	if got, errno := d.Read(name); got != want || errno != api.OK {
		t.Errorf("Read of %q: %q (%d bytes), %d; want %q (%d bytes), OK", name, head(got), len(got), errno, head(want), len(want))
	}
}

func wantNoRead(t *testing.T, d *Disk, name string, want api.Errno) {
	t.Helper()
	if got, errno := d.Read(name); got != "" || errno != want {
		t.Errorf("Read of %q: %q, %d; want none, %d", name, head(got), errno, want)
	}
}

func wantList(t *testing.T, d *Disk, want ...string) {
	t.Helper()
	if got := d.List(); !slices.Equal(got, want) {
		t.Errorf("List: %q; want %q", got, want)
	}
}

func wantUsed(t *testing.T, d *Disk, want int) {
	t.Helper()
	if got := d.Used(); got != want {
		t.Errorf("Used: %d; want %d", got, want)
	}
}

func wantPower(t *testing.T, d *Disk, fused int, down bool) {
	t.Helper()
	if d.Fused() != fused || d.Down() != down {
		t.Errorf("Fused %d, Down %v; want %d, %v", d.Fused(), d.Down(), fused, down)
	}
}

func wantSame(t *testing.T, a, b *Disk, want bool) {
	t.Helper()
	if Same(a, b) != want || Same(b, a) != want {
		t.Errorf("Same: %v, the other way round %v; want %v", Same(a, b), Same(b, a), want)
	}
}

// step: a call of one of the six operations.
type step struct {
	op         string
	name, more string
}

func (s step) String() string { return strings.TrimSpace(s.op + " " + s.name + " " + head(s.more)) }

func (s step) do(d *Disk) api.Errno {
	switch s.op {
	case "create":
		return d.Create(s.name)
	case "append":
		return d.Append(s.name, s.more)
	case "sync":
		return d.Sync(s.name)
	case "rename":
		return d.Rename(s.name, s.more)
	case "delete":
		return d.Delete(s.name)
	case "dirsync":
		return d.DirSync()
	}
	panic("no operation: " + s.op)
}

// steps: each one a line of words, as "append a 12345"; parted by commas.
func steps(lines string) []step {
	var out []step
	for line := range strings.SplitSeq(lines, ",") {
		words := append(strings.Fields(line), "", "", "")
		if words[0] != "" {
			out = append(out, step{words[0], words[1], words[2]})
		}
	}
	return out
}

// must does operations that are all to answer OK.
func must(t *testing.T, d *Disk, lines string) {
	t.Helper()
	for _, s := range steps(lines) {
		if errno := s.do(d); errno != api.OK {
			t.Fatalf("%s: %d; want OK", s, errno)
		}
	}
}

// after: a disk to which that was done.
func after(t *testing.T, room int, lines string) *Disk {
	t.Helper()
	d := New(room)
	must(t, d, lines)
	return d
}

// survivor: a twin behind a crash, with the power on again.
func survivor(d *Disk, c api.Crash) *Disk {
	x := d.Twin()
	x.Crash(c)
	x.Start()
	return x
}

// held: a number held between 0 and a most, as the words have it.
func oracleHeld(n, most int) int {
	if n < 0 {
		return 0
	}
	if n > most {
		return most
	}
	return n
}

// oracle: a disk as the chapter's words tell of it. It keeps whole directories, not changes.
type oracle struct {
	room, fuse int
	down       bool
	files      []oracleFile     // all that were ever created
	states     []map[string]int // the directory at the last DirSync or Crash, and behind each change since: names of files' places
}

type oracleFile struct {
	lasting, tail string
}

func newOracle(room int) *oracle {
	return &oracle{room: oracleHeld(room, 1<<20), states: []map[string]int{{}}}
}

func (o *oracle) now() map[string]int { return o.states[len(o.states)-1] }

func (o *oracle) bytes(name string) string {
	f := o.files[o.now()[name]]
	return f.lasting + f.tail
}

func (o *oracle) names() []string { return slices.Sorted(maps.Keys(o.now())) }

func (o *oracle) used() int {
	sum := 0
	for name := range o.now() {
		sum += len(o.bytes(name))
	}
	return sum
}

// error: what a call answers, but for the fuse.
func (o *oracle) error(s step) api.Errno {
	_, there := o.now()[s.name]
	switch {
	case o.down:
		return api.ErrDown
	case s.op == "create" && !oracleName(s.name):
		return api.ErrArg
	case s.op == "create" && there:
		return api.ErrThere
	case s.op == "rename" && !oracleName(s.more):
		return api.ErrArg
	case s.op != "create" && s.op != "dirsync" && !there:
		return api.ErrNone
	case s.op == "append" && o.used()+len(s.more) > o.room:
		return api.ErrFull
	}
	return api.OK
}

func oracleName(name string) bool {
	return len(name) >= 1 && len(name) <= 24 && strings.Trim(name, "abcdefghijklmnopqrstuvwxyz0123456789.-") == ""
}

func (o *oracle) do(s step) api.Errno {
	if errno := o.error(s); errno != api.OK {
		return errno
	}
	if o.fuse > 0 {
		o.fuse--
		if o.fuse == 0 {
			o.down = true
			return api.ErrDown
		}
	}
	next := maps.Clone(o.now())
	switch s.op {
	case "create":
		o.files = append(o.files, oracleFile{})
		next[s.name] = len(o.files) - 1
	case "append":
		o.files[next[s.name]].tail += s.more
		return api.OK
	case "sync":
		f := &o.files[next[s.name]]
		f.lasting, f.tail = f.lasting+f.tail, ""
		return api.OK
	case "rename":
		if s.name == s.more {
			return api.OK
		}
		next[s.more] = next[s.name]
		delete(next, s.name)
	case "delete":
		delete(next, s.name)
	case "dirsync":
		o.states = nil
	}
	o.states = append(o.states, next)
	return api.OK
}

func (o *oracle) crash(c api.Crash) {
	o.down = true
	o.states = []map[string]int{o.states[oracleHeld(c.Names, len(o.states)-1)]}
	k := 0
	for _, name := range o.names() {
		f := &o.files[o.now()[name]]
		if f.tail == "" {
			continue
		}
		kept := ""
		if k < len(c.Keep) {
			kept = f.tail[:oracleHeld(c.Keep[k], len(f.tail))]
		}
		if k < len(c.Spoil) {
			kept = oracleTurned(kept, c.Spoil[k])
		}
		f.lasting, f.tail = f.lasting+kept, ""
		k++
	}
}

func oracleTurned(s string, spot api.Spot) string {
	if s == "" {
		return s
	}
	at := spot.At % len(s)
	if at < 0 {
		at += len(s)
	}
	b := []byte(s)
	for i, turn := range []uint32{spot.Mask & 255, spot.Mask / 256 & 255, spot.Mask / 65536 & 255, spot.Mask / 16777216} {
		if at+i < len(b) {
			b[at+i] ^= byte(turn)
		}
	}
	return string(b)
}

func (o *oracle) twin() *oracle {
	return &oracle{o.room, o.fuse, o.down, slices.Clone(o.files), slices.Clone(o.states)}
}

// wantOracle: all that is to be seen of a disk is as the oracle has it.
func wantOracle(t *testing.T, d *Disk, o *oracle) {
	t.Helper()
	wantList(t, d, o.names()...)
	wantUsed(t, d, o.used())
	wantPower(t, d, o.fuse, o.down)
	if d.Room() != o.room {
		t.Errorf("Room: %d; want %d", d.Room(), o.room)
	}
	for _, name := range o.names() {
		if o.down {
			wantNoRead(t, d, name, api.ErrDown)
		} else {
			wantRead(t, d, name, o.bytes(name))
		}
	}
}

// wantOracleBehind: likewise of a twin behind a crash.
func wantOracleBehind(t *testing.T, d *Disk, o *oracle, c api.Crash) {
	t.Helper()
	x, p := d.Twin(), o.twin()
	x.Crash(c)
	p.crash(c)
	wantOracle(t, x, p)
	x.Start()
	p.down = false
	wantOracle(t, x, p)
}

// P5.1

func TestANewDisk(t *testing.T) {
	for room, want := range map[int]int{
		math.MinInt: 0, -1: 0, 0: 0, 1: 1, 10: 10, 1<<20 - 1: 1<<20 - 1, 1 << 20: 1 << 20, 1<<20 + 1: 1 << 20, math.MaxInt: 1 << 20,
	} {
		d := New(room)
		if d == nil || d.Room() != want {
			t.Errorf("Room of New(%d): %d; want %d", room, d.Room(), want)
		}
		wantList(t, d)
		wantUsed(t, d, 0)
		wantPower(t, d, 0, false)
		wantNoRead(t, d, "a", api.ErrNone)
	}
}

func TestTheRoomIsFilled(t *testing.T) {
	for _, room := range []int{-5, 0, 1, 7, 1 << 20, 1<<20 + 9} {
		d := after(t, room, "create a, create b")
		size := d.Room()
		wantErrno(t, "Append of nothing", d.Append("a", ""), api.OK)
		wantErrno(t, "Append of a byte more than the room", d.Append("a", letters(size+1)), api.ErrFull)
		wantRead(t, d, "a", "")
		wantErrno(t, "Append of as much as the room", d.Append("a", letters(size)), api.OK)
		wantErrno(t, "Append of a byte to a full disk", d.Append("a", "x"), api.ErrFull)
		wantErrno(t, "Append of a byte to another file", d.Append("b", "x"), api.ErrFull)
		wantErrno(t, "Append of nothing to a full disk", d.Append("b", ""), api.OK)
		wantErrno(t, "Create on a full disk", d.Create("c"), api.OK)
		wantRead(t, d, "a", letters(size))
		wantUsed(t, d, size)
	}
}

func TestWhatThereIs(t *testing.T) {
	d := after(t, 100, "create b, create a.1, create -, create 0, create a, create ab, append ab 123, append b 4567, append b 89")
	rising := []string{"-", "0", "a", "a.1", "ab", "b"}
	wantList(t, d, rising...)
	wantUsed(t, d, 9)
	wantRead(t, d, "b", "456789")
	wantRead(t, d, "ab", "123")
	wantRead(t, d, "a", "")
	for _, name := range []string{"", "c", "A", "a.", letters(25)} {
		wantNoRead(t, d, name, api.ErrNone)
	}
	d.Fuse(1)
	wantErrno(t, "the operation at which the power goes", d.DirSync(), api.ErrDown)
	wantList(t, d, rising...)
	wantUsed(t, d, 9)
	if d.Room() != 100 {
		t.Errorf("Room while the power is off: %d; want 100", d.Room())
	}
	for _, name := range []string{"", "c", "A", "b", "ab"} {
		wantNoRead(t, d, name, api.ErrDown)
	}
}

// P5.2

func TestWhatIsAName(t *testing.T) {
	for b := range 256 {
		c := string([]byte{byte(b)})
		for _, name := range []string{c, "a" + c, c + "a", "abc" + c + "def", letters(23) + c} {
			d := after(t, 9, "create x, append x 12")
			want := api.ErrArg
			if strings.Contains("abcdefghijklmnopqrstuvwxyz0123456789.-", c) {
				want = api.OK
			}
			wantErrno(t, fmt.Sprintf("Rename to %q", name), d.Rename("x", name), want)
			if want == api.OK {
				wantErrno(t, "Delete", d.Delete(name), api.OK)
			}
			wantErrno(t, fmt.Sprintf("Create of %q", name), d.Create(name), want)
			if there := slices.Contains(d.List(), name); there != (want == api.OK) {
				t.Errorf("%q in the List: %v", name, there)
			}
		}
	}
	for size, want := range map[int]api.Errno{0: api.ErrArg, 1: api.OK, 2: api.OK, 23: api.OK, 24: api.OK, 25: api.ErrArg, 26: api.ErrArg, 1000: api.ErrArg} {
		d := after(t, 9, "create 0, append 0 12")
		wantErrno(t, fmt.Sprintf("Rename to a name of %d bytes", size), d.Rename("0", letters(size)), want)
		if want == api.OK {
			wantRead(t, d, letters(size), "12")
			wantErrno(t, "Delete", d.Delete(letters(size)), api.OK)
		} else {
			wantRead(t, d, "0", "12")
		}
		wantErrno(t, fmt.Sprintf("Create of a name of %d bytes", size), d.Create(letters(size)), want)
	}
}

func TestExamplesOfTheChapter(t *testing.T) {
	d := New(10)
	wantErrno(t, "Create a", d.Create("a"), api.OK)
	wantErrno(t, "Create a", d.Create("a"), api.ErrThere)
	wantErrno(t, "Append(a, 12345)", d.Append("a", "12345"), api.OK)
	wantErrno(t, "Append(b, 1)", d.Append("b", "1"), api.ErrNone)
	wantErrno(t, "Append(a, 123456)", d.Append("a", "123456"), api.ErrFull)

	wantErrno(t, "Sync a", d.Sync("a"), api.OK)
	wantErrno(t, "DirSync", d.DirSync(), api.OK)
	wantErrno(t, "Append(a, 67)", d.Append("a", "67"), api.OK)
	d.Crash(api.Crash{Keep: []int{1}})
	wantNoRead(t, d, "a", api.ErrDown)
	d.Start()
	wantRead(t, d, "a", "123456")

	d.Fuse(2)
	wantErrno(t, "Create b", d.Create("b"), api.OK)
	wantErrno(t, "Sync b", d.Sync("b"), api.ErrDown)
	wantErrno(t, "Create c", d.Create("c"), api.ErrDown)

	d.Crash(api.Crash{Names: 0})
	d.Start()
	wantList(t, d, "a")
	if got := Name("log", 7); got != "log.00000007" {
		t.Errorf("Name(log, 7): %s", got)
	}
	wantNumber(t, "log", "log.00000007", 7, true)
	wantNumber(t, "log", "log.7", 0, false)
}

func TestExampleOfTheWhole(t *testing.T) {
	d := after(t, 10, "create a, append a 12345, sync a")
	wantList(t, survivor(d, api.Crash{}))
	wantRead(t, survivor(d, api.Crash{Names: 1}), "a", "12345")
	must(t, d, "dirsync")
	wantRead(t, survivor(d, api.Crash{}), "a", "12345")
}

func TestErrorsOfOperations(t *testing.T) {
	for line, want := range map[string]api.Errno{
		"create a": api.ErrThere, "create": api.ErrArg, "create A": api.ErrArg, "create a_b": api.ErrArg, "create b/c": api.ErrArg,
		"append c 1": api.ErrNone, "append c 123456789": api.ErrNone, "append A 1": api.ErrNone, "append": api.ErrNone,
		"append a 123": api.ErrFull, "append b 123": api.ErrFull,
		"sync c": api.ErrNone, "sync": api.ErrNone, "sync A": api.ErrNone,
		"rename c d": api.ErrNone, "rename c a": api.ErrNone, "rename c c": api.ErrNone, "rename A a": api.ErrNone,
		"rename a A": api.ErrArg, "rename c A": api.ErrArg, "rename A A": api.ErrArg, "rename a": api.ErrArg, "rename": api.ErrArg,
		"delete c": api.ErrNone, "delete": api.ErrNone, "delete A": api.ErrNone,
	} {
		d := after(t, 9, "create a, append a 1234, sync a, dirsync, create b, append b 567")
		was := d.Twin()
		s := steps(line)[0]
		wantErrno(t, line, s.do(d), want)
		wantSame(t, d, was, true)
		// While the power is off all of them are barred, ahead of the other errors.
		d.Crash(api.Crash{Names: 9, Keep: []int{9, 9}})
		was = d.Twin()
		wantErrno(t, line+" while the power is off", s.do(d), api.ErrDown)
		wantSame(t, d, was, true)
	}
}

func TestOperationsWhileThePowerIsOff(t *testing.T) {
	d := after(t, 9, "create a, append a 1234")
	d.Crash(api.Crash{Names: 9, Keep: []int{9}})
	for _, s := range steps("create b, append a 1, append a, sync a, rename a b, rename a a, delete a, dirsync") {
		was := d.Twin()
		wantErrno(t, s.String(), s.do(d), api.ErrDown)
		wantSame(t, d, was, true)
	}
	d.Start()
	wantRead(t, d, "a", "1234")
	must(t, d, "append a 5, rename a b, create a, delete b, dirsync")
	wantList(t, d, "a")
}

func TestAppendsStandBehindEachOther(t *testing.T) {
	d := after(t, 2000, "create a, create b")
	want := ""
	for size := range 60 {
		wantErrno(t, "Append", d.Append("a", letters(size)), api.OK)
		wantErrno(t, "Append", d.Append("b", "\x00"), api.OK)
		want += letters(size)
		wantRead(t, d, "a", want)
		wantRead(t, d, "b", strings.Repeat("\x00", size+1))
		wantUsed(t, d, len(want)+size+1)
	}
}

func TestRenames(t *testing.T) {
	d := after(t, 10, "create a, append a 1234, create b, append b 56789, rename a a")
	wantRead(t, d, "a", "1234")
	must(t, d, "rename a c")
	wantList(t, d, "b", "c")
	wantUsed(t, d, 9)
	wantNoRead(t, d, "a", api.ErrNone)
	must(t, d, "rename b c")
	wantList(t, d, "c")
	wantRead(t, d, "c", "56789")
	wantUsed(t, d, 5)
	// The name that is free again may be given to another file.
	must(t, d, "create b, append b 12345, append c")
	wantRead(t, d, "b", "12345")
	wantRead(t, d, "c", "56789")
	wantErrno(t, "Append beyond the room", d.Append("c", "0"), api.ErrFull)
	must(t, d, "delete c, append b 67890")
	wantRead(t, d, "b", "1234567890")
	wantUsed(t, d, 10)
}

func TestARenameToItselfIsNoChange(t *testing.T) {
	d := after(t, 10, "create a, rename a a, rename a a, create b")
	wantList(t, survivor(d, api.Crash{Names: 1}), "a")
	wantList(t, survivor(d, api.Crash{Names: 2}), "a", "b")
	wantSame(t, d, after(t, 10, "create a, create b"), true)
}

func TestAnotherFileOfTheSameName(t *testing.T) {
	d := after(t, 10, "create a, append a 12, sync a, dirsync, append a 34, delete a, create a, append a xyz, delete a, create a")
	wantRead(t, d, "a", "")
	for names, want := range map[int]string{0: "1234", 2: "xyz", 4: ""} {
		wantRead(t, survivor(d, api.Crash{Names: names, Keep: []int{9}}), "a", want)
	}
	for _, names := range []int{1, 3} {
		wantList(t, survivor(d, api.Crash{Names: names, Keep: []int{9}}))
	}
}

func TestDirSyncWhereverItIs(t *testing.T) {
	script := steps("create a, append a 12, sync a, delete a, create a, append a 34, delete a, create a, append a 56, sync a, rename a b, create a, append a 78, rename a b")
	for at := range len(script) + 1 {
		for upTo := at; upTo <= len(script); upTo++ {
			d, o := New(99), newOracle(99)
			for i, s := range script[:upTo] {
				if i == at {
					must(t, d, "dirsync")
					o.do(step{op: "dirsync"})
				}
				wantErrno(t, s.String(), s.do(d), o.do(s))
			}
			wantOracle(t, d, o)
			for names := -1; names <= 9; names++ {
				for keep := range 4 {
					wantOracleBehind(t, d, o, api.Crash{Names: names, Keep: []int{keep, keep - 1}, Spoil: []api.Spot{{At: keep, Mask: 0x01020304}}})
				}
			}
		}
	}
}

// P5.3

func TestFusesOfEachLength(t *testing.T) {
	script := steps("create a, append a 12, sync a, rename a a, dirsync, rename a b, append b, append b 34, create a, rename b a, delete a, dirsync, create c")
	for length := 1; length <= len(script)+2; length++ {
		d, unlit := New(9), New(9)
		d.Fuse(length)
		for i, s := range script {
			left := length - i
			switch {
			case left > 1:
				wantPower(t, d, left, false)
				wantErrno(t, s.String(), s.do(d), api.OK)
				wantErrno(t, s.String(), s.do(unlit), api.OK)
			case left == 1:
				wantPower(t, d, 1, false)
				wantErrno(t, s.String(), s.do(d), api.ErrDown)
				wantPower(t, d, 0, true)
			default:
				wantErrno(t, s.String(), s.do(d), api.ErrDown)
				wantPower(t, d, 0, true)
			}
		}
		// It has done nothing at which the power went, and nothing behind it.
		d.Start()
		if length > len(script) {
			wantPower(t, d, length-len(script), false)
		}
		d.Fuse(0)
		wantSame(t, d, unlit, true)
	}
}

func TestErrorsDoNotBurnAFuse(t *testing.T) {
	d := after(t, 9, "create a, append a 1234")
	d.Fuse(1)
	for _, s := range steps("create a, create A, append b 1, append a 123456, sync b, rename b c, rename a A, rename b b, delete b") {
		want := newOracleOf(t, 9, "create a, append a 1234").do(s)
		if want == api.OK {
			t.Fatalf("%s is an operation", s)
		}
		wantErrno(t, s.String(), s.do(d), want)
		wantPower(t, d, 1, false)
	}
	d.List()
	d.Used()
	d.Room()
	d.Read("a")
	d.Read("b")
	d.Fused()
	d.Twin()
	d.Start()
	wantPower(t, d, 1, false)
	wantErrno(t, "Append", d.Append("a", "1"), api.ErrDown)
	wantPower(t, d, 0, true)
	d.Start()
	wantRead(t, d, "a", "1234")
	must(t, d, "append a 1")
}

// newOracleOf: an oracle to which that was done.
func newOracleOf(t *testing.T, room int, lines string) *oracle {
	t.Helper()
	o := newOracle(room)
	for _, s := range steps(lines) {
		if errno := o.do(s); errno != api.OK {
			t.Fatalf("%s: %d; want OK", s, errno)
		}
	}
	return o
}

func TestFusesOverFuses(t *testing.T) {
	d := New(9)
	for _, n := range []int{3, 1, 7, math.MaxInt, 2} {
		d.Fuse(n)
		wantPower(t, d, n, false)
	}
	for _, n := range []int{0, -1, math.MinInt} {
		d.Fuse(4)
		d.Fuse(n)
		wantPower(t, d, 0, false)
	}
	must(t, d, "create a, create b, create c, create d, create e")
	d.Fuse(2)
	must(t, d, "sync a")
	d.Fuse(2)
	must(t, d, "sync a")
	wantErrno(t, "Sync", d.Sync("a"), api.ErrDown)
	// A fuse may be lit while the power is off.
	d.Fuse(2)
	wantPower(t, d, 2, true)
	d.Start()
	wantPower(t, d, 2, false)
	must(t, d, "sync a")
	wantErrno(t, "Sync", d.Sync("a"), api.ErrDown)
	wantPower(t, d, 0, true)
}

func TestAFuseStaysBehindACrash(t *testing.T) {
	d := after(t, 9, "create a")
	d.Fuse(3)
	must(t, d, "append a 1")
	d.Crash(api.Crash{Names: 1, Keep: []int{1}})
	wantPower(t, d, 2, true)
	d.Start()
	wantPower(t, d, 2, false)
	must(t, d, "append a 2")
	wantErrno(t, "Append", d.Append("a", "3"), api.ErrDown)
	d.Start()
	wantRead(t, d, "a", "12")
}

func TestStart(t *testing.T) {
	d := New(9)
	d.Start()
	wantPower(t, d, 0, false)
	d.Crash(api.Crash{})
	d.Crash(api.Crash{})
	wantPower(t, d, 0, true)
	d.Start()
	d.Start()
	wantPower(t, d, 0, false)
	must(t, d, "create a")
	d.Fuse(1)
	wantErrno(t, "Sync", d.Sync("a"), api.ErrDown)
	// A power that comes on again without a crash has lost nothing.
	d.Start()
	wantSame(t, d, after(t, 9, "create a"), true)
}

// P5.4

func TestChangesThatACrashKeeps(t *testing.T) {
	d := after(t, 99, "create a, append a 1, sync a, create b, append b 2, sync b, dirsync, rename a c, create a, append a 3, sync a, rename b a, delete c, rename a d")
	lists := [][]string{{"a 1", "b 2"}, {"b 2", "c 1"}, {"a 3", "b 2", "c 1"}, {"a 2", "c 1"}, {"a 2"}, {"d 2"}}
	for names, k := range map[int]int{math.MinInt: 0, -1: 0, 0: 0, 1: 1, 2: 2, 3: 3, 4: 4, 5: 5, 6: 5, math.MaxInt: 5} {
		x := survivor(d, api.Crash{Names: names})
		var got []string
		for _, name := range x.List() {
			data, _ := x.Read(name)
			got = append(got, name+" "+data)
		}
		if !slices.Equal(got, lists[k]) {
			t.Errorf("%d changes: %q; want %q", names, got, lists[k])
		}
		wantUsed(t, x, len(lists[k]))
		// What there is lasts: no change is left that another crash could take back.
		wantSame(t, survivor(x, api.Crash{Names: 0}), x, true)
		wantSame(t, survivor(x, api.Crash{Names: 9, Keep: []int{9, 9, 9}}), x, true)
	}
}

func TestTailsThatACrashKeeps(t *testing.T) {
	d := after(t, 99, "create c, create a, create e, create b, create d, append c cccc, append a 12, sync a, append a aaa, append b bb, sync b, append d dd, append e e, delete d, dirsync")
	for _, c := range []struct {
		keep []int
		want []string // of a, b, c, e; b has no tail, and so takes no Keep
	}{
		{nil, []string{"12", "bb", "", ""}},
		{[]int{}, []string{"12", "bb", "", ""}},
		{[]int{0, 0, 0}, []string{"12", "bb", "", ""}},
		{[]int{1}, []string{"12a", "bb", "", ""}},
		{[]int{2, 3}, []string{"12aa", "bb", "ccc", ""}},
		{[]int{3, 4, 1}, []string{"12aaa", "bb", "cccc", "e"}},
		{[]int{4, 5, 2, 9}, []string{"12aaa", "bb", "cccc", "e"}},
		{[]int{-1, 1, -5}, []string{"12", "bb", "c", ""}},
		{[]int{math.MinInt, math.MaxInt, math.MinInt}, []string{"12", "bb", "cccc", ""}},
		{[]int{math.MaxInt, 0, math.MaxInt}, []string{"12aaa", "bb", "", "e"}},
	} {
		x := survivor(d, api.Crash{Keep: c.keep})
		wantList(t, x, "a", "b", "c", "e")
		for i, name := range x.List() {
			wantRead(t, x, name, c.want[i])
		}
		wantUsed(t, x, len(strings.Join(c.want, "")))
		wantSame(t, survivor(x, api.Crash{}), x, true)
	}
}

func TestTailsGoByTheNamesThatAreLeft(t *testing.T) {
	// The files keep their tails, whatever they are called now; which is the first one, the names say that are there behind the crash.
	d := after(t, 99, "create a, append a xxx, create b, append b yyy, dirsync, rename a c, delete b")
	x := survivor(d, api.Crash{Names: 0, Keep: []int{1, 2}})
	wantRead(t, x, "a", "x")
	wantRead(t, x, "b", "yy")
	x = survivor(d, api.Crash{Names: 1, Keep: []int{1, 2}})
	wantRead(t, x, "b", "y")
	wantRead(t, x, "c", "xx")
	x = survivor(d, api.Crash{Names: 2, Keep: []int{1, 2}})
	wantList(t, x, "c")
	wantRead(t, x, "c", "x")
}

func TestBytesTurnedAtEachPlace(t *testing.T) {
	for size := 1; size <= 10; size++ {
		d := after(t, 99, "create a, append a lasting, sync a, dirsync, append a "+letters(size))
		for keep := -1; keep <= size+1; keep++ {
			for at := -3*size - 1; at <= 3*size+1; at++ {
				for _, mask := range []uint32{0, 1, 0x80, 0x0100, 0x010000, 0x01000000, 0x01020304, 0x80402010, math.MaxUint32} {
					spot := api.Spot{At: at, Mask: mask}
					x := survivor(d, api.Crash{Keep: []int{keep}, Spoil: []api.Spot{spot}})
					wantRead(t, x, "a", "lasting"+oracleTurned(letters(oracleHeld(keep, size)), spot))
				}
			}
		}
	}
}

func TestBytesTurnedWrittenOut(t *testing.T) {
	for _, c := range []struct {
		at   int
		mask uint32
		want string
	}{
		{0, 0x01, "`aaaaaa"},
		{0, 0x04030201, "`cbeaaa"},
		{1, 0x04030201, "a`cbeaa"},
		{3, 0x04030201, "aaa`cbe"},
		{4, 0x04030201, "aaaa`cb"},
		{5, 0x04030201, "aaaaa`c"},
		{6, 0x04030201, "aaaaaa`"},
		{7, 0x04030201, "`cbeaaa"},
		{-1, 0x04030201, "aaaaaa`"},
		{-7, 0x04030201, "`cbeaaa"},
		{-8, 0x04030201, "aaaaaa`"},
		{7000006, 0x04030201, "aaaaaa`"},
		{math.MaxInt, 0x20, aWith(math.MaxInt % 7)},
		{math.MinInt, 0x20, aWith(7 + math.MinInt%7)},
	} {
		d := after(t, 99, "create a, append a a, sync a, dirsync, append a aaaaaaaa")
		x := survivor(d, api.Crash{Keep: []int{7}, Spoil: []api.Spot{{At: c.at, Mask: c.mask}}})
		wantRead(t, x, "a", "a"+c.want)
	}
}

// aWith: seven a, one of which is great.
func aWith(at int) string {
	b := []byte("aaaaaaa")
	b[at%7] = 'A'
	return string(b)
}

func TestFewerSpotsThanTails(t *testing.T) {
	d := after(t, 99, "create a, create b, create c, create d, append a aaaaa, append b b, sync b, append c ccccc, append d ddddd, dirsync")
	one := api.Spot{At: 1, Mask: 0x0101}
	for _, c := range []struct {
		keep  []int
		spoil []api.Spot
		want  []string
	}{
		{[]int{5, 5, 5}, nil, []string{"aaaaa", "b", "ccccc", "ddddd"}},
		{[]int{5, 5, 5}, []api.Spot{one}, []string{"a``aa", "b", "ccccc", "ddddd"}},
		{[]int{5, 5, 5}, []api.Spot{{}, one}, []string{"aaaaa", "b", "cbbcc", "ddddd"}},
		{[]int{5, 5, 5}, []api.Spot{{}, {}, one}, []string{"aaaaa", "b", "ccccc", "deedd"}},
		{[]int{5, 5, 5}, []api.Spot{one, one, one, one, one}, []string{"a``aa", "b", "cbbcc", "deedd"}},
		{[]int{5}, []api.Spot{one, one, one}, []string{"a``aa", "b", "", ""}},
		{nil, []api.Spot{one, one, one}, []string{"", "b", "", ""}},
		// A tail of which nothing is kept has its place in the row all the same.
		{[]int{0, 5, 2}, []api.Spot{one, {}, one}, []string{"", "b", "ccccc", "de"}},
		{[]int{-1, 2}, []api.Spot{one, one}, []string{"", "b", "cb", ""}},
	} {
		x := survivor(d, api.Crash{Keep: c.keep, Spoil: c.spoil})
		for i, name := range x.List() {
			wantRead(t, x, name, c.want[i])
		}
		wantUsed(t, x, len(strings.Join(c.want, "")))
	}
}

func TestMoreThanTheRoomBehindACrash(t *testing.T) {
	// A name that comes back has its file with all bytes: both files together have more than the room.
	d := after(t, 10, "create a, append a 1234567890, sync a, dirsync, create b, delete a, append b abcdefgh, sync b")
	x := survivor(d, api.Crash{Names: 1})
	wantList(t, x, "a", "b")
	wantUsed(t, x, 18)
	wantErrno(t, "Append", x.Append("b", "1"), api.ErrFull)
	must(t, x, "delete a, append b 12")
	wantErrno(t, "Append", x.Append("b", "3"), api.ErrFull)
	wantUsed(t, x, 10)
}

func TestACrashGoesOn(t *testing.T) {
	d := after(t, 99, "create a, append a 1234, create b")
	d.Crash(api.Crash{Names: 1, Keep: []int{2}})
	wantPower(t, d, 0, true)
	wantNoRead(t, d, "a", api.ErrDown)
	wantList(t, d, "a")
	wantUsed(t, d, 2)
	d.Start()
	must(t, d, "append a xy")
	wantRead(t, d, "a", "12xy")
	wantRead(t, survivor(d, api.Crash{}), "a", "12")
	wantRead(t, survivor(d, api.Crash{Keep: []int{1}}), "a", "12x")
	must(t, d, "create b, append b z")
	wantList(t, survivor(d, api.Crash{}), "a")
	wantList(t, survivor(d, api.Crash{Names: 1}), "a", "b")
}

// alphabet: operations that meet one another in few names.
const alphabet = "create a, create b, append a xy, append b z, sync a, rename a b, rename b a, delete a, delete b, dirsync"

func TestAllScriptsOfSomeOperations(t *testing.T) {
	all := steps(alphabet)
	crashes := []api.Crash{{Names: 1, Keep: []int{1}}, {Names: 9, Keep: []int{9, 9}, Spoil: []api.Spot{{At: -1, Mask: 0x21}, {Mask: 2}}}, {Names: 2}, {}}
	var goOn func(d *Disk, o *oracle, left int)
	goOn = func(d *Disk, o *oracle, left int) {
		for i := 0; left > 0 && i < len(all); i++ {
			x, p := d.Twin(), o.twin()
			errno := p.do(all[i])
			if got := all[i].do(x); got != errno {
				t.Fatalf("%s: %d; want %d", all[i], got, errno)
			}
			if errno != api.OK {
				continue
			}
			wantOracle(t, x, p)
			for _, c := range crashes {
				wantOracleBehind(t, x, p, c)
			}
			if t.Failed() {
				t.Fatalf("behind %s, %d steps ahead of the last one", all[i], left-1)
			}
			goOn(x, p, left-1)
		}
	}
	goOn(New(7), newOracle(7), 6)
}

// anyStep: a call that looks like chance, one in some of which is in error.
func (m *numberMaker) anyStep() step {
	names := []string{"a", "b", "c", "d", "a.b", "-", letters(24)}
	name := names[m.below(len(names))]
	other := names[m.below(len(names))]
	switch m.below(16) {
	case 0, 1, 2:
		return step{"create", name, ""}
	case 3, 4, 5, 6, 7:
		return step{"append", name, letters(m.below(12))}
	case 8, 9:
		return step{"sync", name, ""}
	case 10, 11:
		return step{"rename", name, other}
	case 12, 13:
		return step{"delete", name, ""}
	case 14:
		return step{"dirsync", "", ""}
	}
	return []step{{"create", "A", ""}, {"rename", name, ""}, {"append", "e", "1"}, {"append", name, letters(200)}}[m.below(4)]
}

func (m *numberMaker) anyCrash() api.Crash {
	c := api.Crash{Names: m.below(12) - 1}
	for range m.below(6) {
		c.Keep = append(c.Keep, m.below(16)-2)
	}
	for range m.below(6) {
		c.Spoil = append(c.Spoil, api.Spot{At: m.below(30) - 15, Mask: m.next()})
	}
	return c
}

func TestLongScripts(t *testing.T) {
	maker := numberMaker(5)
	for range 200 {
		room := maker.below(120)
		d, o := New(room), newOracle(room)
		for range 150 {
			switch n := maker.below(20); {
			case o.down && n < 8:
				d.Start()
				o.down = false
			case n == 8:
				c := maker.anyCrash()
				d.Crash(c)
				o.crash(c)
			case n == 9:
				fuse := maker.below(14) - 2
				d.Fuse(fuse)
				o.fuse = oracleHeld(fuse, 99)
			case o.down:
				// The power is on again ahead of what is asked next.
				d.Start()
				o.down = false
			default:
				s := maker.anyStep()
				wantErrno(t, s.String(), s.do(d), o.do(s))
			}
			wantOracle(t, d, o)
			if maker.below(5) == 0 {
				wantOracleBehind(t, d, o, maker.anyCrash())
			}
		}
		if t.Failed() {
			return
		}
	}
}

// P5.5

func TestTwinsGoTheirOwnWays(t *testing.T) {
	made := "create a, append a 12, sync a, append a 34, dirsync, rename a b, create a, append a 5, delete b"
	for _, s := range steps("create c, append a 6, sync a, rename a c, delete a, dirsync") {
		d := after(t, 99, made)
		d.Fuse(7)
		x := d.Twin()
		wantSame(t, d, x, true)
		wantPower(t, x, 7, false)
		wantErrno(t, s.String(), s.do(x), api.OK)
		wantSame(t, d, x, false)
		d.Fuse(6)
		wantSame(t, d, x, false)
		d.Fuse(0)
		wantSame(t, d, after(t, 99, made), true)
		y := d.Twin()
		wantErrno(t, s.String(), s.do(d), api.OK)
		wantSame(t, y, after(t, 99, made), true)
		x.Fuse(0)
		wantSame(t, d, x, true)
	}
	for name, act := range map[string]func(*Disk){
		"Fuse":                    func(d *Disk) { d.Fuse(1) },
		"Crash that keeps none":   func(d *Disk) { d.Crash(api.Crash{}) },
		"Crash that turns":        func(d *Disk) { d.Crash(api.Crash{Keep: []int{9}, Spoil: []api.Spot{{Mask: 1}}}) },
		"Crash that keeps a file": func(d *Disk) { d.Crash(api.Crash{Names: 9, Keep: []int{9}}) },
	} {
		d := after(t, 99, made)
		x := d.Twin()
		act(x)
		if Same(d, x) {
			t.Errorf("%s: the twin is the same", name)
		}
		wantSame(t, d, after(t, 99, made), true)
		x = d.Twin()
		act(d)
		wantSame(t, x, after(t, 99, made), true)
	}
}

func TestTwinsOfTwins(t *testing.T) {
	d := after(t, 99, "create a, append a 12")
	for i := range 5 {
		x := d.Twin()
		y := d.Twin().Twin()
		wantErrno(t, "Append", d.Append("a", "xxxx"), api.OK)
		wantErrno(t, "Append", x.Append("a", letters(i+1)), api.OK)
		wantErrno(t, "Append", y.Append("a", letters(i+1)), api.OK)
		wantSame(t, x, y, true)
		wantSame(t, x, d, false)
		d = x
	}
	wantRead(t, d, "a", "12aababcabcdabcde")
}

func TestATwinOfADiskThatIsDown(t *testing.T) {
	d := after(t, 99, "create a")
	d.Crash(api.Crash{Names: 1})
	d.Fuse(2)
	x := d.Twin()
	wantPower(t, x, 2, true)
	wantSame(t, d, x, true)
	x.Start()
	wantSame(t, d, x, false)
	wantPower(t, d, 2, true)
	must(t, x, "append a 1")
	wantErrno(t, "Sync", x.Sync("a"), api.ErrDown)
	wantPower(t, d, 2, true)
}

// unlikeDisks: no two of them are the same; many differ from another one in one thing alone.
func unlikeDisks(t *testing.T) map[string]*Disk {
	out := map[string]*Disk{}
	for _, lines := range []string{
		"",
		"create a",
		"create b",
		"create a, dirsync",
		"create b, dirsync",
		"create a, append a x",
		"create a, append a y",
		"create a, append a xx",
		"create a, append a x, sync a",
		"create a, append a x, sync a, append a x",
		"create a, append a xx, sync a",
		"create a, dirsync, append a x",
		"create a, dirsync, append a x, sync a",
		"create a, delete a",
		"create a, append a x, delete a",
		"create a, append a x, sync a, delete a",
		"create a, delete a, create a",
		"create a, append a x, delete a, create a",
		"create a, delete a, create a, append a x",
		"create a, dirsync, delete a",
		"create a, append a x, dirsync, delete a",
		"create a, append a x, sync a, dirsync, delete a",
		"create a, dirsync, delete a, create a",
		"create a, dirsync, rename a b",
		"create a, rename a b",
		"create a, rename a c",
		"create a, rename a b, rename b a",
		"create a, create b",
		"create b, create a",
		"create a, create b, dirsync",
		"create a, create b, rename a b",
		"create a, create b, rename b a",
		"create a, create b, delete a",
		"create a, create b, delete b",
		"create a, create b, dirsync, rename a b",
		"create a, create b, dirsync, delete a",
		"create a, append a x, create b, append b y, dirsync",
		"create a, append a y, create b, append b x, dirsync",
		"create a, append a x, create b, append b x, dirsync, rename a b",
		"create a, append a x, create b, append b x, dirsync, delete a",
	} {
		out[lines] = after(t, 9, lines)
	}
	for name, act := range map[string]func(*Disk){
		"fuse 1":           func(d *Disk) { d.Fuse(1) },
		"fuse 2":           func(d *Disk) { d.Fuse(2) },
		"power off":        func(d *Disk) { d.Crash(api.Crash{}) },
		"fuse 1, off":      func(d *Disk) { d.Fuse(1); d.Crash(api.Crash{}) },
		"a, off":           func(d *Disk) { must(t, d, "create a"); d.Crash(api.Crash{Names: 1}) },
		"fuse 3, create a": func(d *Disk) { d.Fuse(3); must(t, d, "create a") },
	} {
		d := New(9)
		act(d)
		out[name] = d
	}
	out["room 10"] = New(10)
	out["room 0"] = New(0)
	out["room 10, create a"] = after(t, 10, "create a")
	return out
}

func TestDisksThatDifferInOneThing(t *testing.T) {
	disks, others := unlikeDisks(t), unlikeDisks(t)
	for name, d := range disks {
		for other, x := range others {
			if Same(d, x) != (name == other) {
				t.Errorf("Same of disks behind %q and %q: %v", name, other, Same(d, x))
			}
		}
		wantSame(t, d, d, true)
		wantSame(t, d, d.Twin(), true)
		wantSame(t, d, nil, false)
	}
	wantSame(t, nil, nil, true)
}

func TestOtherWaysToTheSameDisk(t *testing.T) {
	for _, c := range [][2]string{
		{"create a, append a xy", "create a, append a x, append a y"},
		{"create a, append a xy, sync a", "create a, append a x, sync a, append a y, sync a"},
		{"create a, append a x, dirsync, sync a", "create a, append a x, sync a, dirsync"},
		{"create a, append a, sync a", "create a"},
		{"create a, rename a a", "create a"},
		{"dirsync, dirsync", ""},
		{"create a, create b, dirsync", "create b, create a, dirsync, dirsync"},
		{"create a, rename a b, dirsync", "create b, dirsync"},
		{"create a, append a x, delete a, dirsync", ""},
		{"create a, append a x, create b, append b y, rename b a, dirsync", "create a, append a y, dirsync"},
		{"create a, create b, append b y, append a x", "create a, append a x, create b, append b y"},
	} {
		wantSame(t, after(t, 9, c[0]), after(t, 9, c[1]), true)
	}
	wantSame(t, New(-1), New(0), true)
	wantSame(t, New(1<<20), New(1<<21), true)
	d := New(9)
	d.Fuse(3)
	must(t, d, "create a")
	x := after(t, 9, "create a")
	x.Fuse(2)
	wantSame(t, d, x, true)
	x.Crash(api.Crash{Names: 1})
	x.Start()
	must(t, d, "dirsync")
	d.Fuse(2)
	wantSame(t, d, x, true)
}

// P5.6

func wantNumber(t *testing.T, word, name string, want uint64, wantOK bool) {
	t.Helper()
	if n, ok := Number(word, name); n != want || ok != wantOK {
		t.Errorf("Number(%q, %q): %d, %v; want %d, %v", word, name, n, ok, want, wantOK)
	}
}

func TestNamesByNumbers(t *testing.T) {
	for digits, n := range map[string]uint64{
		"00000000": 0, "00000001": 1, "00000009": 9, "00000010": 10, "00000255": 255, "09999999": 9999999, "10000000": 10000000, "12345678": 12345678,
		"99999999": 99999999, "100000000": 100000000, "123456789": 123456789, "1099511627776": api.MaxNumber, "9999999999999999999": 9999999999999999999, "10000000000000000000": 10000000000000000000,
		"18446744073709551615": math.MaxUint64,
	} {
		for _, word := range []string{"log", "table", "", "a", ".", "x.", "log.0", "log.00000001", "A b\x00\xff", "12345678", "-", letters(40)} {
			name := word + "." + digits
			if got := Name(word, n); got != name {
				t.Errorf("Name(%q, %d): %q; want %q", word, n, got, name)
			}
			wantNumber(t, word, name, n, true)
		}
	}
}

func TestNamesOfEachLength(t *testing.T) {
	for n := uint64(0); n < math.MaxUint64/3; n = n*3 + 1 {
		if got, want := Name("w", n), fmt.Sprintf("w.%08d", n); got != want {
			t.Errorf("Name(w, %d): %q; want %q", n, got, want)
		}
		wantNumber(t, "w", fmt.Sprintf("w.%08d", n), n, true)
		if n < 100000000 {
			wantNumber(t, "w", fmt.Sprintf("w.%09d", n), 0, false)
		}
		wantNumber(t, "w", fmt.Sprintf("w.0%08d", n), 0, false)
	}
}

func TestNamesThatAreNoNumbers(t *testing.T) {
	for _, name := range []string{
		"", "log", "log.", "log.7", "log.0000007", "log.000000007", "log.0000000000", "log.012345678", "log00000007", "log 00000007", "log-00000007", "log..00000007", "log.00000007.",
		"log.00000007 ", " log.00000007", "log. 0000007", "log.+0000007", "log.-0000007", "log.-00000007", "log.0000000x", "log.0000000a", "log.x0000007", "log.0x000007", "log.0000_007", "log.1_234_567",
		"log.00000007\x00", "log.000000.7", "log.1e000000", "log.18446744073709551616", "log.18446744073709551617", "log.99999999999999999999", "log.118446744073709551615", "log.00000000000000000007",
		"Log.00000007", "lo.00000007", "logs.00000007", "table.00000007", ".00000007", "00000007", "og.00000007", "log.00000007log", "log.\xd9\xa0\xd9\xa0\xd9\xa0\xd9\xa0\xd9\xa0\xd9\xa0\xd9\xa0\xd9\xa7",
	} {
		wantNumber(t, "log", name, 0, false)
	}
	wantNumber(t, "", "00000007", 0, false)
	wantNumber(t, "", "log.00000007", 0, false)
	wantNumber(t, "log.", "log.00000007", 0, false)
	wantNumber(t, "log.00000007", "log.00000007", 0, false)
}

// P5.7

func TestDisksThatNewDidNotMake(t *testing.T) {
	for what, d := range map[string]*Disk{"nil": nil, "empty": {}, "new": new(Disk)} {
		for _, s := range steps("create a, create A, append a 1, sync a, rename a b, rename a A, delete a, dirsync") {
			wantErrno(t, what+": "+s.String(), s.do(d), api.ErrNil)
		}
		wantNoRead(t, d, "a", api.ErrNil)
		d.Fuse(3)
		d.Crash(api.Crash{Names: 1, Keep: []int{1}, Spoil: []api.Spot{{At: 1, Mask: 1}}})
		d.Start()
		wantList(t, d)
		wantUsed(t, d, 0)
		wantPower(t, d, 0, true)
		if d.Room() != 0 || d.Twin() != nil {
			t.Errorf("%s: Room %d, Twin %v; want 0, nil", what, d.Room(), d.Twin())
		}
		wantErrno(t, what+": create a", d.Create("a"), api.ErrNil)
		wantSame(t, d, New(0), false)
		wantSame(t, d, after(t, 9, "create a"), false)
	}
}

// P5.8

// keeper watches the calls, and knows of each name of which file's bytes it is sure.
type keeper map[string]*kept

type kept struct {
	synced, tail string
	named        bool // the name was there at a DirSync, and was not touched since
}

func (k keeper) saw(s step) {
	switch s.op {
	case "create":
		k[s.name] = &kept{}
	case "append":
		k[s.name].tail += s.more
	case "sync":
		k[s.name].synced += k[s.name].tail
		k[s.name].tail = ""
	case "rename":
		if s.name != s.more {
			k[s.more] = k[s.name]
			k[s.more].named = false
			delete(k, s.name)
		}
	case "delete":
		delete(k, s.name)
	case "dirsync":
		for _, f := range k {
			f.named = true
		}
	}
}

// fewTurned: whether a text is the beginning of another one, but for four bytes side by side.
func fewTurned(got, of string) bool {
	if len(got) > len(of) {
		return false
	}
	first, last := -1, -1
	for i := range len(got) {
		if got[i] != of[i] {
			last = i
			if first < 0 {
				first = i
			}
		}
	}
	return last-first < 4
}

func (k keeper) wantKept(t *testing.T, x *Disk) {
	t.Helper()
	for name, f := range k {
		if !f.named {
			continue
		}
		got, errno := x.Read(name)
		if errno != api.OK || !strings.HasPrefix(got, f.synced) || !fewTurned(got[len(f.synced):], f.tail) {
			t.Errorf("%s: %q, %d; want %q and a beginning of %q", name, got, errno, f.synced, f.tail)
		}
	}
}

func TestWhatLasts(t *testing.T) {
	maker := numberMaker(58)
	for range 300 {
		d, k := New(400), keeper{}
		for range 60 {
			s := maker.anyStep()
			if s.do(d) != api.OK {
				continue
			}
			k.saw(s)
			k.wantKept(t, d)
			for range 3 {
				x := survivor(d, maker.anyCrash())
				k.wantKept(t, x)
				x.Crash(maker.anyCrash())
				x.Start()
				k.wantKept(t, x)
			}
		}
		if t.Failed() {
			return
		}
	}
}

func TestALastingFileInSpiteOfAllElse(t *testing.T) {
	d := after(t, 99, "create a, append a 12345, sync a, dirsync")
	must(t, d, "append a 678, create b, append b xyz, rename b c, sync c, create d, delete d")
	for names := -1; names <= 6; names++ {
		for keep := -1; keep <= 4; keep++ {
			x := survivor(d, api.Crash{Names: names, Keep: []int{keep, keep}})
			wantRead(t, x, "a", "12345678"[:5+oracleHeld(keep, 3)])
		}
	}
}

// R3, R4

func TestArgumentsStayAsTheyWere(t *testing.T) {
	d := after(t, 99, "create a, create b, append a 123456, append b 123456, dirsync")
	keep, spoil := make([]int, 4), make([]api.Spot, 4)
	for i := range keep {
		keep[i], spoil[i] = i+2, api.Spot{At: -9 - i, Mask: 7}
	}
	keepWas, spoilWas := slices.Clone(keep), slices.Clone(spoil)
	d.Crash(api.Crash{Names: 1, Keep: keep[:2:3], Spoil: spoil[:1]})
	if !slices.Equal(keep, keepWas) || !slices.Equal(spoil, spoilWas) {
		t.Errorf("the crash has changed what it was handed: %v, %v", keep, spoil)
	}
	was := d.Twin()
	for i := range keep {
		keep[i], spoil[i] = 0, api.Spot{}
	}
	wantSame(t, d, was, true)
}

func TestListsAreNewMemory(t *testing.T) {
	d := after(t, 99, "create b, create a")
	one, other := d.List(), d.List()
	one[0], one[1] = "x", "y"
	_ = append(one[:0], "z")
	if !slices.Equal(other, []string{"a", "b"}) {
		t.Errorf("List shares memory with another: %q", other)
	}
	wantList(t, d, "a", "b")
	must(t, d, "delete a")
	if !slices.Equal(other, []string{"a", "b"}) {
		t.Errorf("List shares memory with the disk: %q", other)
	}
}

func TestTextsStayWhenTheDiskGoesOn(t *testing.T) {
	d := after(t, 99, "create a, append a 123456")
	text, _ := d.Read("a")
	d.Crash(api.Crash{Names: 1, Keep: []int{4}, Spoil: []api.Spot{{Mask: math.MaxUint32}}})
	d.Start()
	must(t, d, "append a xyz")
	if text != "123456" {
		t.Errorf("what Read told became %q", text)
	}
}
