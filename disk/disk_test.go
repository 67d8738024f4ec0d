package disk

import (
	"math"
	"slices"
	"strings"
	"testing"

	"lodestar/api"
)

// The face of the chapter: each call with its exact signature.
var (
	_ func() *Disk                                 = New
	_ func(*Disk, string, string) (int, api.Errno) = (*Disk).Write
	_ func(*Disk, string, int) api.Errno           = (*Disk).Cut
	_ func(*Disk, string) api.Errno                = (*Disk).Sync
	_ func(*Disk, string, string) api.Errno        = (*Disk).Rename
	_ func(*Disk, string) api.Errno                = (*Disk).Remove
	_ func(*Disk) api.Errno                        = (*Disk).SyncNames
	_ func(*Disk, string) (string, api.Errno)      = (*Disk).Read
	_ func(*Disk) []string                         = (*Disk).Names
	_ func(*Disk) int                              = (*Disk).Steps
	_ func(*Disk, []api.DiskFault) api.Errno       = (*Disk).Plan
	_ func(*Disk, api.Crash)                       = (*Disk).Crash
)

// write lays s behind the file's bytes, which must go well.
func write(t *testing.T, d *Disk, name, s string) {
	t.Helper()
	if n, e := d.Write(name, s); n != len(s) || e != api.OK {
		t.Fatalf("Write(%q, %q) = %d, %d", name, s, n, e)
	}
}

// ok wants no error.
func ok(t *testing.T, e api.Errno) {
	t.Helper()
	if e != api.OK {
		t.Fatalf("error %d", e)
	}
}

// is wants this error.
func is(t *testing.T, e, want api.Errno) {
	t.Helper()
	if e != want {
		t.Errorf("error %d, want %d", e, want)
	}
}

// holds wants just these files: a name, its bytes, a name, its bytes ..
func holds(t *testing.T, d *Disk, want ...string) {
	t.Helper()
	var got []string
	for _, name := range d.Names() {
		s, e := d.Read(name)
		if e != api.OK {
			t.Errorf("Read(%q): error %d", name, e)
		}
		got = append(got, name, s)
	}
	if !slices.Equal(got, want) {
		t.Errorf("the disk holds %q, want %q", got, want)
	}
}

// steps wants so many steps.
func steps(t *testing.T, d *Disk, want int) {
	t.Helper()
	if n := d.Steps(); n != want {
		t.Errorf("%d steps, want %d", n, want)
	}
}

func TestNew(t *testing.T) { // 2.1, 2.2
	d := New()
	if d == nil {
		t.Fatal("no disk")
	}
	holds(t, d)
	steps(t, d, 0)
	write(t, d, "a", "x")
	holds(t, New())
}

func TestWrite(t *testing.T) { // 2.1
	d := New()
	write(t, d, "a", "one")
	holds(t, d, "a", "one")
	write(t, d, "a", "")
	write(t, d, "a", " two")
	write(t, d, "b", "")
	holds(t, d, "a", "one two", "b", "")
	steps(t, d, 4)
	all := strings.Repeat("\x00\xff", 300)
	write(t, d, "\xff \x00\n", all)
	holds(t, d, "a", "one two", "b", "", "\xff \x00\n", all)
	if n, e := d.Write("", "x"); n != 0 || e != api.ErrArg {
		t.Errorf("Write of no name: %d, %d", n, e)
	}
	holds(t, d, "a", "one two", "b", "", "\xff \x00\n", all)
	steps(t, d, 5)
}

func TestCut(t *testing.T) { // 2.1
	d := New()
	write(t, d, "a", "abcdef")
	for _, x := range []struct {
		size int
		left string
	}{{7, "abcdef"}, {math.MaxInt, "abcdef"}, {6, "abcdef"}, {5, "abcde"}, {1, "a"}, {0, ""}, {0, ""}} {
		ok(t, d.Cut("a", x.size))
		holds(t, d, "a", x.left)
	}
	write(t, d, "a", "gh")
	holds(t, d, "a", "gh")
	ok(t, d.Cut("a", -1))
	holds(t, d, "a", "")
	write(t, d, "a", "ij")
	ok(t, d.Cut("a", math.MinInt))
	holds(t, d, "a", "")
	steps(t, d, 12)
}

func TestCutLastsAtOnce(t *testing.T) { // 2.1
	d := New()
	write(t, d, "a", "abcdef")
	ok(t, d.Sync("a"))
	ok(t, d.SyncNames())
	write(t, d, "a", "ghi")
	ok(t, d.Cut("a", 4)) // within what is synced
	d.Crash(api.Crash{Bytes: []int{9}})
	holds(t, d, "a", "abcd")
}

func TestCutKeepsWhatIsSynced(t *testing.T) { // 2.1
	for _, x := range []struct {
		size, bytes int
		left        string
	}{
		{6, 0, "abc"}, {5, 0, "abc"}, {5, 1, "abcd"}, {5, 2, "abcde"}, {5, 3, "abcde"},
		{3, 0, "abc"}, {3, 5, "abc"}, {2, 0, "ab"}, {2, 5, "ab"}, {0, 5, ""},
	} {
		d := New()
		write(t, d, "a", "abc")
		ok(t, d.Sync("a"))
		ok(t, d.SyncNames())
		write(t, d, "a", "def")
		ok(t, d.Cut("a", x.size))
		d.Crash(api.Crash{Bytes: []int{x.bytes}})
		holds(t, d, "a", x.left)
	}
}

func TestBytesBehindACutAreOpen(t *testing.T) { // 2.1
	d := New()
	write(t, d, "a", "abcdef")
	ok(t, d.Sync("a"))
	ok(t, d.SyncNames())
	ok(t, d.Cut("a", 2))
	write(t, d, "a", "xyz")
	holds(t, d, "a", "abxyz")
	d.Crash(api.Crash{Bytes: []int{1}})
	holds(t, d, "a", "abx")
}

func TestSync(t *testing.T) { // 2.1
	d := New()
	write(t, d, "a", "abc")
	write(t, d, "b", "abc")
	ok(t, d.Sync("a"))
	ok(t, d.SyncNames())
	write(t, d, "a", "def")
	d.Crash(api.Crash{})
	holds(t, d, "a", "abc", "b", "")
}

func TestSyncLeavesNamesOpen(t *testing.T) { // 2.1
	d := New()
	write(t, d, "a", "abc")
	ok(t, d.Sync("a"))
	d.Crash(api.Crash{Bytes: []int{9}})
	holds(t, d)
}

func TestSyncNamesLeavesBytesOpen(t *testing.T) { // 2.1
	d := New()
	write(t, d, "a", "abc")
	ok(t, d.SyncNames())
	d.Crash(api.Crash{})
	holds(t, d, "a", "")
}

func TestSyncNamesOfNothing(t *testing.T) { // 2.1
	d := New()
	ok(t, d.SyncNames())
	ok(t, d.SyncNames())
	steps(t, d, 2)
	holds(t, d)
}

func TestRename(t *testing.T) { // 2.1
	d := New()
	write(t, d, "a", "abc")
	write(t, d, "b", "xyz")
	ok(t, d.Rename("a", "c"))
	holds(t, d, "b", "xyz", "c", "abc")
	ok(t, d.Rename("c", "b")) // in place of another one
	holds(t, d, "b", "abc")
	write(t, d, "b", "def")
	write(t, d, "c", "new")
	holds(t, d, "b", "abcdef", "c", "new")
	steps(t, d, 6)
}

func TestRenameToItself(t *testing.T) { // 2.1: a step, but no change
	d := New()
	write(t, d, "a", "abc")
	ok(t, d.Rename("a", "a"))
	holds(t, d, "a", "abc")
	steps(t, d, 2)
	write(t, d, "b", "")
	d.Crash(api.Crash{Names: 2, Bytes: []int{9}})
	holds(t, d, "a", "abc", "b", "")
	ok(t, d.Rename("a", "a"))
	d.Crash(api.Crash{})
	holds(t, d, "a", "abc", "b", "")
}

func TestRenameMovesWhatIsSynced(t *testing.T) { // 2.1
	d := New()
	write(t, d, "a", "abc")
	ok(t, d.Sync("a"))
	write(t, d, "a", "def")
	write(t, d, "b", "ghijkl")
	ok(t, d.Sync("b"))
	ok(t, d.Rename("a", "b"))
	ok(t, d.SyncNames())
	d.Crash(api.Crash{Bytes: []int{1}})
	holds(t, d, "b", "abcd")
}

func TestRemove(t *testing.T) { // 2.1
	d := New()
	write(t, d, "a", "abc")
	write(t, d, "b", "xyz")
	ok(t, d.Sync("a"))
	ok(t, d.Remove("a"))
	holds(t, d, "b", "xyz")
	write(t, d, "a", "new")
	holds(t, d, "a", "new", "b", "xyz")
	ok(t, d.SyncNames())
	d.Crash(api.Crash{}) // it is another file, of which nothing was synced
	holds(t, d, "a", "", "b", "")
}

func TestNoNameAndNoFile(t *testing.T) { // 2.1, 2.2: neither is a step
	for _, x := range []struct {
		from, to string
		want     api.Errno
	}{
		{"", "", api.ErrArg}, {"", "a", api.ErrArg}, {"a", "", api.ErrArg}, {"q", "", api.ErrArg}, {"", "q", api.ErrArg},
		{"q", "a", api.ErrFile}, {"q", "q", api.ErrFile}, {"q", "r", api.ErrFile},
	} {
		d := New()
		write(t, d, "a", "abc")
		is(t, d.Rename(x.from, x.to), x.want)
		holds(t, d, "a", "abc")
		steps(t, d, 1)
	}
	for name, want := range map[string]api.Errno{"": api.ErrArg, "q": api.ErrFile, "A": api.ErrFile, "a ": api.ErrFile} {
		d := New()
		write(t, d, "a", "abc")
		is(t, d.Cut(name, 1), want)
		is(t, d.Sync(name), want)
		is(t, d.Remove(name), want)
		if s, e := d.Read(name); s != "" || e != want {
			t.Errorf("Read(%q) = %q, %d, want %d", name, s, e, want)
		}
		holds(t, d, "a", "abc")
		steps(t, d, 1)
	}
}

func TestGoneNameHasNoFile(t *testing.T) { // 2.1, 2.2
	d := New()
	write(t, d, "a", "abc")
	write(t, d, "b", "abc")
	ok(t, d.Remove("a"))
	ok(t, d.Rename("b", "c"))
	for _, name := range []string{"a", "b"} {
		is(t, d.Cut(name, 0), api.ErrFile)
		is(t, d.Sync(name), api.ErrFile)
		is(t, d.Remove(name), api.ErrFile)
		is(t, d.Rename(name, "c"), api.ErrFile)
		if _, e := d.Read(name); e != api.ErrFile {
			t.Errorf("Read(%q): error %d", name, e)
		}
	}
	holds(t, d, "c", "abc")
	steps(t, d, 4)
}

func TestReadAndNamesAreNoSteps(t *testing.T) { // 2.2
	d := New()
	for range 3 {
		d.Names()
		d.Read("a")
		d.Read("")
		d.Steps()
		d.Plan(nil)
		d.Crash(api.Crash{})
	}
	steps(t, d, 0)
}

func TestNamesRise(t *testing.T) { // 2.2: byte by byte
	d := New()
	want := []string{"\x00", "A", "B", "a", "a\x00", "aa", "b", "l1", "l10", "l2", "\u00fc", "\xff"}
	for i := range want {
		write(t, d, want[(i*5+3)%len(want)], "x")
	}
	for range 20 {
		if got := d.Names(); !slices.Equal(got, want) {
			t.Fatalf("Names() = %q, want %q", got, want)
		}
	}
}

func TestAnswersAreNewMemory(t *testing.T) { // R4
	d := New()
	write(t, d, "a", "abc")
	write(t, d, "b", "abc")
	first, second := d.Names(), d.Names()
	first[0] = "q"
	if second[0] != "a" {
		t.Error("two answers share memory")
	}
	holds(t, d, "a", "abc", "b", "abc")
	was, _ := d.Read("a")
	ok(t, d.Cut("a", 0))
	write(t, d, "a", "xyz")
	if was != "abc" {
		t.Errorf("what was read is %q now", was)
	}
}

func TestFilesShareNothing(t *testing.T) { // 2.1
	d := New()
	s := strings.Repeat("x", 100)
	write(t, d, "a", s)
	write(t, d, "b", s)
	ok(t, d.Cut("a", 10))
	write(t, d, "a", "yyy")
	holds(t, d, "a", s[:10]+"yyy", "b", s)
}

func TestNilDisk(t *testing.T) { // 2.4, R1
	var d *Disk
	for _, name := range []string{"", "a"} {
		if n, e := d.Write(name, "abc"); n != 0 || e != api.ErrArg {
			t.Errorf("Write: %d, %d", n, e)
		}
		if s, e := d.Read(name); s != "" || e != api.ErrArg {
			t.Errorf("Read: %q, %d", s, e)
		}
		is(t, d.Cut(name, 1), api.ErrArg)
		is(t, d.Sync(name), api.ErrArg)
		is(t, d.Rename(name, "b"), api.ErrArg)
		is(t, d.Remove(name), api.ErrArg)
	}
	is(t, d.SyncNames(), api.ErrArg)
	is(t, d.Plan(nil), api.ErrArg)
	is(t, d.Plan([]api.DiskFault{{Step: 1, Kind: api.FaultFail}}), api.ErrArg)
	d.Crash(api.Crash{Names: 3, Bytes: []int{1}})
	if len(d.Names()) != 0 || d.Steps() != 0 {
		t.Error("a nil disk has names or steps")
	}
}

func TestDiskOfNoNew(t *testing.T) { // R1: none panics
	for _, f := range []func(d *Disk){
		func(d *Disk) { write(t, d, "a", "abc") },
		func(d *Disk) { d.Crash(api.Crash{Names: 1}) },
		func(d *Disk) { ok(t, d.Plan([]api.DiskFault{{Step: 1, Kind: api.FaultFull}})) },
		func(d *Disk) { is(t, d.Rename("a", "b"), api.ErrFile) },
		func(d *Disk) { is(t, d.Remove("a"), api.ErrFile) },
		func(d *Disk) { ok(t, d.SyncNames()) },
	} {
		f(&Disk{})
	}
}
