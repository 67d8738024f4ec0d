package disk

import (
	"math"
	"testing"

	"lodestar/api"
)

// replaced is the chapter's example: a synced and lasting, b renamed over it.
func replaced(t *testing.T) *Disk {
	t.Helper()
	d := New()
	write(t, d, "a", "old")
	ok(t, d.Sync("a"))
	ok(t, d.SyncNames())
	write(t, d, "b", "new")
	ok(t, d.Sync("b"))
	ok(t, d.Rename("b", "a"))
	return d
}

func TestCrashOfTheExample(t *testing.T) { // 2.3
	for _, x := range []struct {
		names int
		want  []string
	}{
		{math.MinInt, []string{"a", "old"}}, {-1, []string{"a", "old"}}, {0, []string{"a", "old"}},
		{1, []string{"a", "old", "b", "new"}},
		{2, []string{"a", "new"}}, {3, []string{"a", "new"}}, {math.MaxInt, []string{"a", "new"}},
	} {
		d := replaced(t)
		d.Crash(api.Crash{Names: x.names})
		holds(t, d, x.want...)
		steps(t, d, 6)
	}
}

func TestCrashOfOpenBytes(t *testing.T) { // 2.3, 2.5
	for _, x := range []struct {
		bytes []int
		left  string
	}{
		{nil, "ab"}, {[]int{}, "ab"}, {[]int{0}, "ab"}, {[]int{-1}, "ab"}, {[]int{math.MinInt}, "ab"},
		{[]int{1}, "abc"}, {[]int{2}, "abcd"}, {[]int{3}, "abcd"}, {[]int{math.MaxInt}, "abcd"}, {[]int{1, 2}, "abc"},
	} {
		d := New()
		write(t, d, "a", "ab")
		ok(t, d.Sync("a"))
		ok(t, d.SyncNames())
		write(t, d, "a", "cd")
		d.Crash(api.Crash{Bytes: x.bytes})
		holds(t, d, "a", x.left)
	}
}

func TestCrashGoesRoundTheBytes(t *testing.T) { // 2.3
	d := New()
	for _, name := range []string{"e", "c", "a", "d", "b"} {
		write(t, d, name, name+"1234")
	}
	ok(t, d.SyncNames())
	d.Crash(api.Crash{Bytes: []int{1, -3, 3}})
	holds(t, d, "a", "a", "b", "", "c", "c12", "d", "d", "e", "")
}

func TestCrashCountsNamesThatAreLeft(t *testing.T) { // 2.3: not those that are undone, nor those that went
	d := New()
	write(t, d, "b", "1234")
	write(t, d, "m", "1234")
	write(t, d, "z", "1234")
	ok(t, d.SyncNames())
	ok(t, d.Rename("m", "y"))
	write(t, d, "a", "1234") // undone
	ok(t, d.Remove("b"))     // undone
	d.Crash(api.Crash{Names: 1, Bytes: []int{1, 2, 3}})
	holds(t, d, "b", "1", "y", "12", "z", "123")
}

func TestCrashUndoesEachPrefix(t *testing.T) { // 2.3
	for names, want := range [][]string{
		{"a", "A", "b", "B"},
		{"b", "A"},
		{"b", "A", "c", "C"},
		{"c", "C"},
		{"a", "C"},
		{"a", "C", "c", "D"},
		{"c", "C"},
		{"c", "C"},
	} {
		d := New()
		write(t, d, "a", "A")
		write(t, d, "b", "B")
		ok(t, d.SyncNames())
		ok(t, d.Rename("a", "b"))
		write(t, d, "c", "C")
		ok(t, d.Remove("b"))
		ok(t, d.Rename("c", "a"))
		write(t, d, "c", "D")
		ok(t, d.Rename("a", "c"))
		d.Crash(api.Crash{Names: names, Bytes: []int{9}})
		holds(t, d, want...)
	}
}

func TestCrashUndoesARemoval(t *testing.T) { // 2.3: the file that comes back has what was synced of it
	d := New()
	write(t, d, "a", "ab")
	ok(t, d.Sync("a"))
	ok(t, d.SyncNames())
	write(t, d, "a", "cd")
	ok(t, d.Remove("a"))
	write(t, d, "a", "another")
	ok(t, d.Sync("a"))
	d.Crash(api.Crash{Bytes: []int{1}})
	holds(t, d, "a", "abc")
}

func TestCrashLeavesBytesToAFileWhoseNameIsUndone(t *testing.T) { // 2.1, 2.3: Write, Cut and Sync are of files, not of names
	d := New()
	write(t, d, "a", "abc")
	ok(t, d.SyncNames())
	ok(t, d.Rename("a", "b"))
	write(t, d, "b", "def")
	ok(t, d.Cut("b", 5))
	ok(t, d.Sync("b"))
	write(t, d, "b", "xyz")
	d.Crash(api.Crash{Bytes: []int{1}})
	holds(t, d, "a", "abcdex")
}

func TestCrashLeavesABegunFileWithoutItsBytes(t *testing.T) { // 2.3
	d := New()
	write(t, d, "a", "x")
	d.Crash(api.Crash{})
	holds(t, d)
	write(t, d, "a", "x")
	d.Crash(api.Crash{Names: 1})
	holds(t, d, "a", "")
	write(t, d, "a", "x")
	d.Crash(api.Crash{Names: 1})
	holds(t, d, "a", "")
}

func TestAllIsSyncedBehindACrash(t *testing.T) { // 2.3
	d := New()
	write(t, d, "a", "abc")
	write(t, d, "b", "def")
	d.Crash(api.Crash{Names: 2, Bytes: []int{2, 3}})
	for range 2 {
		holds(t, d, "a", "ab", "b", "def")
		d.Crash(api.Crash{})
	}
	write(t, d, "a", "xy")
	d.Crash(api.Crash{Bytes: []int{1}})
	holds(t, d, "a", "abx", "b", "def")
}

func TestNoChangeIsOpenBehindACrash(t *testing.T) { // 2.3
	d := replaced(t)
	d.Crash(api.Crash{Names: 1})
	d.Crash(api.Crash{})
	holds(t, d, "a", "old", "b", "new")
	write(t, d, "c", "")
	ok(t, d.Remove("a"))
	d.Crash(api.Crash{Names: 1}) // the first that is open now
	holds(t, d, "a", "old", "b", "new", "c", "")
}

func TestNoChangeIsOpenBehindSyncNames(t *testing.T) { // 2.1
	d := replaced(t)
	ok(t, d.SyncNames())
	write(t, d, "b", "more")
	d.Crash(api.Crash{})
	holds(t, d, "a", "new")
}

func TestNoFaultIsPlannedBehindACrash(t *testing.T) { // 2.3: and the steps are counted on
	d := replaced(t)
	plan(t, d, api.DiskFault{Step: 7, Kind: api.FaultFail}, api.DiskFault{Step: 8, Kind: api.FaultFull})
	d.Crash(api.Crash{})
	steps(t, d, 6)
	is(t, d.SyncNames(), api.OK)
	is(t, d.SyncNames(), api.OK)
	is(t, d.Plan([]api.DiskFault{{Step: 8, Kind: api.FaultFail}}), api.ErrArg)
	is(t, d.Plan([]api.DiskFault{{Step: 9, Kind: api.FaultFail}}), api.OK)
	is(t, d.SyncNames(), api.ErrFault)
}

func TestCrashChangesNothingOfItsList(t *testing.T) { // R4
	d := replaced(t)
	l := []int{-1, 5, 7}
	d.Crash(api.Crash{Names: 1, Bytes: l})
	if l[0] != -1 || l[1] != 5 || l[2] != 7 {
		t.Errorf("the list is %v now", l)
	}
}

func TestCrashOfNothing(t *testing.T) { // 2.3, R1
	d := New()
	d.Crash(api.Crash{Names: 5, Bytes: []int{1}})
	holds(t, d)
	steps(t, d, 0)
}

// replace makes the first steps, at most so many, of those that put s in the place of what a leads to.
func replace(d *Disk, s string, most int) {
	for i, f := range []func(){
		func() { d.Write("tmp", s[:1]) }, func() { d.Write("tmp", s[1:]) }, func() { d.Sync("tmp") },
		func() { d.Rename("tmp", "a") }, func() { d.SyncNames() },
	} {
		if i < most {
			f()
		}
	}
}

func TestReplacedWhole(t *testing.T) { // 2.5: whatever the moment and the crash
	for most := range 6 {
		for names := range 4 {
			for bytes := range 5 {
				d := New()
				write(t, d, "a", "old")
				ok(t, d.Sync("a"))
				ok(t, d.SyncNames())
				replace(d, "new", most)
				d.Crash(api.Crash{Names: names, Bytes: []int{bytes}})
				s, e := d.Read("a")
				if e != api.OK || s != "old" && s != "new" || most == 5 && s != "new" || most < 4 && s != "old" {
					t.Errorf("behind %d steps and a crash of %d, %d: %q, %d", most, names, bytes, s, e)
				}
			}
		}
	}
}
