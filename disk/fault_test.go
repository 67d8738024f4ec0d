package disk

import (
	"math"
	"testing"

	"lodestar/api"
)

// plan plans these faults, which must go well.
func plan(t *testing.T, d *Disk, l ...api.DiskFault) {
	t.Helper()
	if e := d.Plan(l); e != api.OK {
		t.Fatalf("Plan(%v): error %d", l, e)
	}
}

// calls are all that make a step, at a disk that has a and b.
func calls() map[string]func(d *Disk) api.Errno {
	return map[string]func(d *Disk) api.Errno{
		"Write":      func(d *Disk) api.Errno { _, e := d.Write("a", "xyz"); return e },
		"Write anew": func(d *Disk) api.Errno { _, e := d.Write("q", "xyz"); return e },
		"Write none": func(d *Disk) api.Errno { _, e := d.Write("a", ""); return e },
		"Cut":        func(d *Disk) api.Errno { return d.Cut("a", 1) },
		"Cut none":   func(d *Disk) api.Errno { return d.Cut("a", 99) },
		"Sync":       func(d *Disk) api.Errno { return d.Sync("a") },
		"Rename":     func(d *Disk) api.Errno { return d.Rename("a", "b") },
		"Rename new": func(d *Disk) api.Errno { return d.Rename("a", "c") },
		"Rename to":  func(d *Disk) api.Errno { return d.Rename("a", "a") },
		"Remove":     func(d *Disk) api.Errno { return d.Remove("a") },
		"SyncNames":  func(d *Disk) api.Errno { return d.SyncNames() },
	}
}

// filled has a, of which two bytes are synced and lasting, and b, whose name is open.
func filled(t *testing.T) *Disk {
	t.Helper()
	d := New()
	write(t, d, "a", "ab")
	ok(t, d.Sync("a"))
	ok(t, d.SyncNames())
	write(t, d, "a", "cd")
	write(t, d, "b", "gh")
	return d
}

func TestEachCallIsAStep(t *testing.T) { // 2.1
	for name, f := range calls() {
		d := filled(t)
		if e := f(d); e != api.OK || d.Steps() != 6 {
			t.Errorf("%s: error %d, %d steps", name, e, d.Steps())
		}
	}
}

func TestFaultRefusesEachCall(t *testing.T) { // 2.1: nothing is done, but the step is counted
	for name, f := range calls() {
		for _, x := range []struct {
			kind int
			want api.Errno
		}{{api.FaultFail, api.ErrFault}, {api.FaultFull, api.ErrFull}} {
			d := filled(t)
			plan(t, d, api.DiskFault{Step: 6, Kind: x.kind})
			if e := f(d); e != x.want || d.Steps() != 6 {
				t.Errorf("%s: error %d, %d steps", name, e, d.Steps())
			}
			unchanged(t, d)
			d = filled(t)
			plan(t, d, api.DiskFault{Step: 6, Kind: x.kind})
			f(d)
			if e := f(d); e != api.OK || d.Steps() != 7 {
				t.Errorf("%s again: error %d, %d steps", name, e, d.Steps())
			}
		}
	}
}

func TestShortFaultRefusesOthersWhole(t *testing.T) { // 2.1
	for name, f := range calls() {
		if name == "Write" || name == "Write anew" || name == "Write none" {
			continue
		}
		d := filled(t)
		plan(t, d, api.DiskFault{Step: 6, Kind: api.FaultShort, N: 1})
		if e := f(d); e != api.ErrFault || d.Steps() != 6 {
			t.Errorf("%s: error %d, %d steps", name, e, d.Steps())
		}
		unchanged(t, d)
	}
}

// unchanged wants a disk as filled makes it, also of what a crash leaves.
func unchanged(t *testing.T, d *Disk) {
	t.Helper()
	holds(t, d, "a", "abcd", "b", "gh")
	d.Crash(api.Crash{Bytes: []int{1}})
	holds(t, d, "a", "abc")
}

func TestRefusedWriteTellsNothing(t *testing.T) { // 2.1, R2
	for kind, want := range map[int]api.Errno{api.FaultFail: api.ErrFault, api.FaultFull: api.ErrFull} {
		for _, name := range []string{"a", "q"} {
			d := filled(t)
			plan(t, d, api.DiskFault{Step: 6, Kind: kind})
			if n, e := d.Write(name, "xyz"); n != 0 || e != want {
				t.Errorf("Write: %d, %d, want 0, %d", n, e, want)
			}
			holds(t, d, "a", "abcd", "b", "gh")
		}
	}
}

func TestShortWrite(t *testing.T) { // 2.1
	for _, x := range []struct {
		name, s string
		n, laid int
		a, q    string
	}{
		{"a", "xyz", 0, 0, "abcd", ""}, {"a", "xyz", 1, 1, "abcdx", ""}, {"a", "xyz", 2, 2, "abcdxy", ""},
		{"a", "xyz", 3, 3, "abcdxyz", ""}, {"a", "xyz", 4, 3, "abcdxyz", ""}, {"a", "xyz", math.MaxInt, 3, "abcdxyz", ""},
		{"a", "", 0, 0, "abcd", ""}, {"a", "", 5, 0, "abcd", ""},
		{"q", "xyz", 2, 2, "abcd", "xy"}, {"q", "xyz", 3, 3, "abcd", "xyz"}, {"q", "xyz", 9, 3, "abcd", "xyz"},
	} {
		d := filled(t)
		plan(t, d, api.DiskFault{Step: 6, Kind: api.FaultShort, N: x.n})
		if n, e := d.Write(x.name, x.s); n != x.laid || e != api.ErrFault {
			t.Errorf("Write(%q, %q), short by a fault of %d: %d, %d, want %d", x.name, x.s, x.n, n, e, x.laid)
		}
		if x.name == "q" {
			holds(t, d, "a", x.a, "b", "gh", "q", x.q)
		} else {
			holds(t, d, "a", x.a, "b", "gh")
		}
		steps(t, d, 6)
	}
}

func TestShortWriteBeginsTheFile(t *testing.T) { // 2.1: also where nothing is laid; an open change
	d := New()
	plan(t, d, api.DiskFault{Step: 1, Kind: api.FaultShort})
	if n, e := d.Write("a", "xyz"); n != 0 || e != api.ErrFault {
		t.Errorf("Write: %d, %d", n, e)
	}
	holds(t, d, "a", "")
	write(t, d, "b", "")
	d.Crash(api.Crash{Names: 1})
	holds(t, d, "a", "")
}

func TestShortWriteIsNotSynced(t *testing.T) { // 2.1
	d := filled(t)
	plan(t, d, api.DiskFault{Step: 6, Kind: api.FaultShort, N: 2})
	d.Write("a", "xyz")
	d.Crash(api.Crash{Bytes: []int{3}})
	holds(t, d, "a", "abcdx")
}

func TestErrArgAndErrFileGoAheadOfFaults(t *testing.T) { // 2.1: they are no steps, so the fault waits
	d := filled(t)
	plan(t, d, api.DiskFault{Step: 6, Kind: api.FaultFull})
	if n, e := d.Write("", "x"); n != 0 || e != api.ErrArg {
		t.Errorf("Write: %d, %d", n, e)
	}
	is(t, d.Cut("", 0), api.ErrArg)
	is(t, d.Sync("q"), api.ErrFile)
	is(t, d.Remove("q"), api.ErrFile)
	is(t, d.Rename("q", "a"), api.ErrFile)
	is(t, d.Rename("a", ""), api.ErrArg)
	steps(t, d, 5)
	if s, e := d.Read("a"); s != "abcd" || e != api.OK {
		t.Errorf("Read: %q, %d", s, e)
	}
	is(t, d.Sync("a"), api.ErrFull)
	is(t, d.Sync("a"), api.OK)
}

func TestPlanOfSeveral(t *testing.T) { // 2.2
	d := New()
	plan(t, d, api.DiskFault{Step: 2, Kind: api.FaultFail}, api.DiskFault{Step: 3, Kind: api.FaultFull}, api.DiskFault{Step: 5, Kind: api.FaultShort, N: 1}, api.DiskFault{Step: math.MaxInt, Kind: api.FaultFail})
	for i, want := range []api.Errno{api.OK, api.ErrFault, api.ErrFull, api.OK, api.ErrFault, api.OK, api.OK} {
		if _, e := d.Write("a", "xyz"); e != want {
			t.Errorf("step %d: error %d, want %d", i+1, e, want)
		}
	}
	holds(t, d, "a", "xyzxyzxxyzxyz")
}

func TestPlanInPlaceOfAnother(t *testing.T) { // 2.2
	d := New()
	plan(t, d, api.DiskFault{Step: 1, Kind: api.FaultFail}, api.DiskFault{Step: 3, Kind: api.FaultFail})
	plan(t, d, api.DiskFault{Step: 2, Kind: api.FaultFull})
	for i, want := range []api.Errno{api.OK, api.ErrFull, api.OK} {
		if e := d.SyncNames(); e != want {
			t.Errorf("step %d: error %d, want %d", i+1, e, want)
		}
	}
	plan(t, d, api.DiskFault{Step: 4, Kind: api.FaultFail})
	plan(t, d)
	is(t, d.SyncNames(), api.OK)
	steps(t, d, 4)
}

func TestPlanRefused(t *testing.T) { // 2.2: the faults that there were stay
	for _, l := range [][]api.DiskFault{
		{{Step: 2, Kind: api.FaultFail}},
		{{Step: 1, Kind: api.FaultFail}},
		{{Step: 0, Kind: api.FaultFail}},
		{{Step: -1, Kind: api.FaultFail}},
		{{Step: math.MinInt, Kind: api.FaultFail}},
		{{Step: 1, Kind: api.FaultFail}, {Step: 5, Kind: api.FaultFail}},
		{{Step: 4, Kind: api.FaultFail}, {Step: 4, Kind: api.FaultFail}},
		{{Step: 5, Kind: api.FaultFail}, {Step: 4, Kind: api.FaultFail}},
		{{Step: 4, Kind: api.FaultFail}, {Step: 6, Kind: api.FaultFail}, {Step: 5, Kind: api.FaultFail}},
		{{Step: 4, Kind: 0}},
		{{Step: 4, Kind: 4}},
		{{Step: 4, Kind: -1}},
		{{Step: 4, Kind: api.FaultFull}, {Step: 5}},
		{{Step: 4, Kind: api.FaultShort, N: -1}},
		{{Step: 4, Kind: api.FaultShort, N: math.MinInt}},
		{{Step: 4, Kind: api.FaultFail, N: -1}},
		{{Step: 4, Kind: api.FaultFull, N: -1}},
		{{Step: 4, Kind: api.FaultFail, N: 1}},
		{{Step: 4, Kind: api.FaultFull, N: 1}},
		{{Step: 4, Kind: api.FaultShort}, {Step: 5, Kind: api.FaultFull, N: 1}},
	} {
		d := New()
		ok(t, d.SyncNames())
		ok(t, d.SyncNames())
		plan(t, d, api.DiskFault{Step: 3, Kind: api.FaultFull})
		if e := d.Plan(l); e != api.ErrArg {
			t.Errorf("Plan(%v): error %d", l, e)
		}
		is(t, d.SyncNames(), api.ErrFull)
		for range 4 {
			is(t, d.SyncNames(), api.OK)
		}
	}
}

func TestPlanTakesTheNextStep(t *testing.T) { // 2.2
	d := New()
	ok(t, d.SyncNames())
	plan(t, d, api.DiskFault{Step: 2, Kind: api.FaultShort, N: 0}, api.DiskFault{Step: 3, Kind: api.FaultShort, N: math.MaxInt})
	is(t, d.SyncNames(), api.ErrFault)
	is(t, d.SyncNames(), api.ErrFault)
	is(t, d.SyncNames(), api.OK)
}

// rising are so many faults from the step first on.
func rising(first, count int) []api.DiskFault {
	var l []api.DiskFault
	for i := range count {
		l = append(l, api.DiskFault{Step: first + i, Kind: api.FaultFail})
	}
	return l
}

func TestPlanOfMaxEvents(t *testing.T) { // 2.2
	d := New()
	is(t, d.Plan(rising(1, api.MaxEvents+1)), api.ErrArg)
	is(t, d.SyncNames(), api.OK)
	is(t, d.Plan(rising(2, api.MaxEvents)), api.OK)
	for range api.MaxEvents {
		is(t, d.SyncNames(), api.ErrFault)
	}
	is(t, d.SyncNames(), api.OK)
}

func TestPlanKeepsNothingOfTheList(t *testing.T) { // R4
	d := New()
	l := []api.DiskFault{{Step: 1, Kind: api.FaultFull}, {Step: 2, Kind: api.FaultFail}}
	plan(t, d, l...)
	l[0], l[1] = api.DiskFault{Step: 7, Kind: api.FaultFail}, api.DiskFault{}
	is(t, d.SyncNames(), api.ErrFull)
	is(t, d.SyncNames(), api.ErrFault)
	if l[0] != (api.DiskFault{Step: 7, Kind: api.FaultFail}) || l[1] != (api.DiskFault{}) {
		t.Error("the list was changed")
	}
}

func TestRefusedChangeIsNotOpen(t *testing.T) { // 2.1, 2.3: it does not count among the changes that last
	d := New()
	write(t, d, "a", "")
	plan(t, d, api.DiskFault{Step: 2, Kind: api.FaultFail}, api.DiskFault{Step: 3, Kind: api.FaultShort}, api.DiskFault{Step: 4, Kind: api.FaultFull})
	is(t, d.Rename("a", "b"), api.ErrFault)
	is(t, d.Remove("a"), api.ErrFault)
	is(t, d.SyncNames(), api.ErrFull)
	write(t, d, "c", "")
	d.Crash(api.Crash{Names: 2})
	holds(t, d, "a", "", "c", "")
}
