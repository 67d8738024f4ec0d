package store

import (
	"math"
	"slices"
	"testing"

	"lodestar/api"
	"lodestar/disk"
	"lodestar/segment"
)

func TestOpenRefuses(t *testing.T) { // 12.1: nothing is done
	bad := config(0, 0)
	bad.Schema.Vectors[1].Dim = 0
	with := func(flush, compact int) api.Config {
		c := bad
		c.Flush, c.Compact = flush, compact
		return c
	}
	for _, x := range []struct {
		c    api.Config
		want api.Errno
	}{
		{config(-1, 0), api.ErrArg}, {config(math.MinInt, 0), api.ErrArg},
		{config(0, -1), api.ErrArg}, {config(0, math.MinInt), api.ErrArg},
		{config(0, 1), api.ErrArg}, {config(1, 1), api.ErrArg}, {config(-1, 1), api.ErrArg},
		{with(-1, 0), api.ErrArg}, {with(0, -1), api.ErrArg}, {with(0, 1), api.ErrArg}, // named ahead of the schema's
		{bad, api.ErrSchema}, {with(3, 4), api.ErrSchema}, {api.Config{}, api.ErrSchema},
	} {
		for _, l := range [][]string{nil, {"manifest", "none", "x", ""}} { // and ahead of what the disk has
			d := on(t, l...)
			makes(t, d, 0, func() { notOpened(t, d, x.c, x.want) })
			if !slices.Equal(files(t, d), l) {
				t.Fatalf("%q", files(t, d))
			}
			notOpened(t, nil, x.c, api.ErrArg)
		}
	}
	notOpened(t, nil, config(0, 0), api.ErrArg)
}

func TestOpenTakesConfigs(t *testing.T) { // 12.1
	for _, c := range []api.Config{config(0, 0), config(1, 2), config(0, 2), config(math.MaxInt, math.MaxInt), config(1, 0), config(2, 3)} {
		d := disk.New()
		s := opened(t, d, c)
		is(t, s.Upsert([]api.Point{at(1, 1)}), api.OK)
		has(t, s, 1, at(1, 1))
		has(t, opened(t, d, c), 1, at(1, 1))
	}
}

func TestOpenBegins(t *testing.T) { // 12.1
	d := disk.New()
	makes(t, d, 8, func() { has(t, opened(t, d, config(0, 0)), 0) }) // Write, SyncNames, Sync; Write, Sync, Rename, SyncNames; SyncNames
	if want := []string{"l1", "", "manifest", fresh()}; !slices.Equal(files(t, d), want) {
		t.Fatalf("%q", files(t, d))
	}
	d.Crash(api.Crash{})
	makes(t, d, 2, func() { has(t, opened(t, d, config(0, 0)), 0) }) // Sync, SyncNames
	if want := []string{"l1", "", "manifest", fresh()}; !slices.Equal(files(t, d), want) {
		t.Fatalf("%q", files(t, d))
	}
}

func TestOpenBeginsAmongOthers(t *testing.T) { // 12.1: without a manifest nothing else counts
	log := logOf(1, bodyOf(at(1, 1)))
	for _, x := range []struct {
		files []string
		steps int
	}{
		{[]string{"l1", log}, 9},
		{[]string{"l1", "no log"}, 9},
		{[]string{"l1", "", "l2", log, "s1", "x", "tmp", "half"}, 12}, // l1 and tmp are removed ahead, l2 and s1 behind
		{[]string{"Manifest", fresh(), "manifest ", fresh(), "manifests", fresh()}, 11},
	} {
		d := on(t, x.files...)
		makes(t, d, x.steps, func() { has(t, opened(t, d, config(0, 0)), 0) })
		d.Crash(api.Crash{})
		if want := []string{"l1", "", "manifest", fresh()}; !slices.Equal(files(t, d), want) {
			t.Fatalf("%q", files(t, d))
		}
	}
}

// laid answers a disk of two segments and a log, and others that do not count.
func laid(t *testing.T, more ...string) *disk.Disk {
	t.Helper()
	m := api.Manifest{Segments: []string{"s2", "s4"}, Log: "l5", Next: 6, Seq: 4}
	return on(t, append([]string{"manifest", manifestOf(m), "s2", segmentOf(at(1, 1), at(2, 2)), "s4", segmentOf(at(2, 3), at(3, 3)), "l5", logOf(5, bodyOf(at(3, 4)), goneBody(1))}, more...)...)
}

// segmentOf answers the bytes of a segment of these points, which the writes 1, 2, .. made.
func segmentOf(l ...api.Point) string {
	var s api.Segment
	for i, p := range l {
		s.Versions = append(s.Versions, api.Version{Seq: 1 + i + p.Vectors[0].V[0], Point: p})
	}
	b, e := segment.Encode(s)
	if e != api.OK {
		panic(e)
	}
	return b
}

func TestOpenReads(t *testing.T) { // 12.1
	d := laid(t)
	makes(t, d, 2, func() { has(t, opened(t, d, config(0, 0)), 6, at(2, 3), at(3, 4)) }) // Sync, SyncNames
	named(t, d, "l5", "manifest", "s2", "s4")
	s := opened(t, d, config(0, 0))
	is(t, s.Upsert([]api.Point{at(1, 9)}), api.OK)
	has(t, s, 7, at(1, 9), at(2, 3), at(3, 4))
	is(t, s.Flush(), api.OK)
	counts(t, d, api.Manifest{Segments: []string{"s2", "s4", "s6"}, Log: "l7", Next: 8, Seq: 7})
	is(t, s.Compact(), api.OK)
	d.Crash(api.Crash{})
	has(t, opened(t, d, config(0, 0)), 7, at(1, 9), at(2, 3), at(3, 4))
}

func TestOpenCutsWhatIsTorn(t *testing.T) { // 12.1: as wal.Open does
	frame := logOf(7, bodyOf(at(8, 8)))
	for i := range len(frame) {
		d := laid(t)
		_, e := d.Write("l5", frame[:i])
		is(t, e, api.OK)
		before, _ := d.Read("l5")
		s := opened(t, d, config(0, 0))
		has(t, s, 6, at(2, 3), at(3, 4))
		if after, _ := d.Read("l5"); after != before[:len(before)-i] {
			t.Fatalf("%d torn bytes: the log has %q", i, after)
		}
		is(t, s.Upsert([]api.Point{at(8, 9)}), api.OK)
		has(t, opened(t, d, config(0, 0)), 7, at(2, 3), at(3, 4), at(8, 9))
	}
}

func TestOpenBeginsALogThatLacks(t *testing.T) { // 12.1: as wal.Open does
	d := laid(t)
	is(t, d.Remove("l5"), api.OK)
	makes(t, d, 4, func() { has(t, opened(t, d, config(0, 0)), 4, at(1, 1), at(2, 3), at(3, 3)) }) // Write, SyncNames, Sync, SyncNames
	d.Crash(api.Crash{})
	has(t, opened(t, d, config(0, 0)), 4, at(1, 1), at(2, 3), at(3, 3))
}

// replaced lets the file of that name have the bytes.
func replaced(t *testing.T, d *disk.Disk, name, bytes string) {
	t.Helper()
	is(t, d.Cut(name, 0), api.OK)
	_, e := d.Write(name, bytes)
	is(t, e, api.OK)
}

func TestOpenTellsWhatIsWrong(t *testing.T) { // 12.1: in this order
	narrow := config(0, 0)
	narrow.Schema.Vectors = narrow.Schema.Vectors[:1]
	lay := func(name, bytes string) func(*testing.T, *disk.Disk) {
		return func(t *testing.T, d *disk.Disk) { replaced(t, d, name, bytes) }
	}
	remove := func(name string) func(*testing.T, *disk.Disk) {
		return func(t *testing.T, d *disk.Disk) { is(t, d.Remove(name), api.OK) }
	}
	spoilers := []struct {
		spoil func(*testing.T, *disk.Disk)
		want  api.Errno
	}{
		{lay("manifest", ""), api.ErrManifest},
		{lay("manifest", fresh()[1:]), api.ErrManifest},
		{lay("s2", "LSEG"), api.ErrSegment},
		{remove("s4"), api.ErrFile},
		{lay("l5", "more than sixteen bytes that are no log"), api.ErrWal},
		{lay("l5", logOf(6, goneBody(1))), api.ErrWal},
		{lay("l5", logOf(4, goneBody(1))), api.ErrWal},
		{lay("l5", logOf(5, goneBody(1), "")), api.ErrWal},
		{lay("l5", logOf(1, goneBody(1))), api.ErrWal},
	}
	for i, x := range spoilers {
		for _, y := range append(spoilers[i:], x) {
			if y.want == x.want {
				y.spoil = func(*testing.T, *disk.Disk) {}
			}
			for _, c := range []api.Config{config(0, 0), narrow} { // the points' error is the last
				d := laid(t, "a", "left")
				y.spoil(t, d)
				x.spoil(t, d)
				before := files(t, d)
				notOpened(t, d, c, x.want)
				if !slices.Equal(files(t, d), before) {
					t.Fatalf("%q, was %q", files(t, d), before)
				}
			}
		}
	}
	d := laid(t, "a", "left")
	makes(t, d, 1, func() { notOpened(t, d, narrow, api.ErrSchema) }) // wal.Open's Sync
	named(t, d, "a", "l5", "manifest", "s2", "s4")
}

func TestOpenTellsOfSegmentsInTheirOrder(t *testing.T) { // 12.1: each is read and decoded
	d := laid(t)
	is(t, d.Remove("s4"), api.OK)
	replaced(t, d, "s2", "no segment")
	notOpened(t, d, config(0, 0), api.ErrSegment)
	d = laid(t)
	is(t, d.Remove("s2"), api.OK)
	replaced(t, d, "s4", "no segment")
	notOpened(t, d, config(0, 0), api.ErrFile)
}

func TestOpenOfOtherPoints(t *testing.T) { // 12.1: each that was read is held against the schema, also one that others hide
	odd := api.Point{Id: 3, Vectors: []api.Vec{{Name: "v", V: []int{3}}}} // of one component
	for _, x := range []struct{ name, bytes string }{
		{"s2", segmentOf(at(1, 1), odd)}, // a newer one in s4, and in the log
		{"s4", segmentOf(at(2, 3), odd)},
		{"l5", logOf(5, bodyOf(at(9, 1), odd))},
		{"l5", logOf(5, bodyOf(odd), goneBody(3))},
		{"l5", logOf(5, bodyOf(odd, at(3, 3)))},
		{"l5", logOf(5, goneBody(1), bodyOf(at(1, 1)), bodyOf(odd))},
	} {
		d := laid(t, "x", "")
		replaced(t, d, x.name, x.bytes)
		makes(t, d, 1, func() { notOpened(t, d, config(0, 0), api.ErrSchema) }) // Sync
		named(t, d, "l5", "manifest", "s2", "s4", "x")
		c := config(0, 0)
		c.Schema.Vectors[0].Dim = 1
		notOpened(t, d, c, api.ErrSchema) // the others
	}
}

func TestOpenBySeq(t *testing.T) { // Words: the newest, whatever segment it stands in
	m := api.Manifest{Segments: []string{"s1", "s2"}, Log: "l3", Next: 4, Seq: 9}
	d := on(t, "l3", "", "manifest", manifestOf(m), "s1", segmentOf(at(2, 7), at(3, 3)), "s2", segmentOf(at(1, 1), at(2, 2), at(4, 4)))
	has(t, opened(t, d, config(0, 0)), 9, at(1, 1), at(2, 7), at(3, 3), at(4, 4))
}

func TestOpenWithOtherFields(t *testing.T) { // 12.1: a schema with more takes what was written by one with less
	d := disk.New()
	less := config(0, 0)
	less.Schema.Fields = less.Schema.Fields[2:]
	s := opened(t, d, less)
	is(t, s.Upsert([]api.Point{at(1, 1)}), api.OK)
	is(t, s.Flush(), api.OK)
	has(t, opened(t, d, config(0, 0)), 1, at(1, 1))
	less.Schema.Fields = nil
	notOpened(t, d, less, api.ErrSchema)
	is(t, s.Delete(1), api.OK) // what is gone has no fields, but its segment stays
	notOpened(t, d, less, api.ErrSchema)
	is(t, s.Flush(), api.OK)
	notOpened(t, d, less, api.ErrSchema)
	is(t, s.Compact(), api.OK)
	has(t, opened(t, d, less), 2)
}

func TestOpenSweeps(t *testing.T) { // 12.1: by rising names, up to the first that the disk refuses
	more := []string{"MANIFEST", "a", "l", "l1", "l4", "l6", "l05", "s", "s1", "s22", "s3", "s5", "tmp", "z"}
	slices.Sort(more)
	for refused := range len(more) + 2 {
		d := laid(t)
		for _, name := range more {
			_, e := d.Write(name, "bytes of "+name)
			is(t, e, api.OK)
		}
		is(t, d.SyncNames(), api.OK)
		if refused <= len(more) {
			fault(t, d, 2+refused, api.FaultFull, 0)
			makes(t, d, 2+refused, func() { notOpened(t, d, config(0, 0), api.ErrFull) })
			left := append([]string{"l5", "manifest", "s2", "s4"}, more[min(refused, len(more)):]...)
			slices.Sort(left)
			named(t, d, left...)
			if refused == len(more) { // SyncNames: a crash may bring all back
				d.Crash(api.Crash{Names: 1})
				left = append([]string{"l5", "manifest", "s2", "s4"}, more[1:]...)
				slices.Sort(left)
				named(t, d, left...)
			}
		}
		has(t, opened(t, d, config(0, 0)), 6, at(2, 3), at(3, 4))
		d.Crash(api.Crash{})
		named(t, d, "l5", "manifest", "s2", "s4")
		has(t, opened(t, d, config(0, 0)), 6, at(2, 3), at(3, 4))
	}
}

func TestOpenRefusedAtEachStep(t *testing.T) { // 12.1: the first error is the answer; opened again all is well
	for _, kind := range []int{api.FaultFail, api.FaultFull} {
		want := api.ErrFault
		if kind == api.FaultFull {
			want = api.ErrFull
		}
		for place := 1; place <= 8; place++ {
			d := disk.New()
			fault(t, d, place, kind, 0)
			notOpened(t, d, config(0, 0), want)
			has(t, opened(t, d, config(0, 0)), 0)
			named(t, d, "l1", "manifest")
			d.Crash(api.Crash{})
			has(t, opened(t, d, config(0, 0)), 0)
		}
		for place := 1; place <= 4; place++ { // Cut, Sync, Remove, SyncNames
			d := laid(t, "x", "y")
			_, e := d.Write("l5", "torn")
			is(t, e, api.OK)
			fault(t, d, place, kind, 0)
			makes(t, d, place, func() { notOpened(t, d, config(0, 0), want) })
			has(t, opened(t, d, config(0, 0)), 6, at(2, 3), at(3, 4))
		}
	}
}

func TestOpenTwiceAtOnce(t *testing.T) { // R1: two stores on one disk
	d := disk.New()
	a := opened(t, d, config(0, 0))
	b := opened(t, d, config(0, 0))
	is(t, a.Upsert([]api.Point{at(1, 1)}), api.OK)
	has(t, a, 1, at(1, 1))
	has(t, b, 0)
	c := opened(t, d, config(0, 0))
	has(t, c, 1, at(1, 1))
	hasNot(t, b, 1)
}
