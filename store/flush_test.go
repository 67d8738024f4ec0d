package store

import (
	"fmt"
	"slices"
	"testing"

	"lodestar/api"
	"lodestar/disk"
	"lodestar/manifest"
	"lodestar/segment"
)

// versions answers what the segment's file of that name has.
func versions(t *testing.T, d *disk.Disk, name string) []api.Version {
	t.Helper()
	b, e := d.Read(name)
	is(t, e, api.OK)
	s, e := segment.Decode(b)
	is(t, e, api.OK)
	return s.Versions
}

// holds wants that the segment's file of that name has just these versions.
func holds(t *testing.T, d *disk.Disk, name string, want ...api.Version) {
	t.Helper()
	if got := versions(t, d, name); fmt.Sprint(got) != fmt.Sprint(want) {
		t.Fatalf("%s has %v, want %v", name, got, want)
	}
}

func stands(seq int, p api.Point) api.Version { return api.Version{Seq: seq, Point: p} }
func gone(seq, id int) api.Version {
	return api.Version{Seq: seq, Gone: true, Point: api.Point{Id: id}}
}

func TestFlush(t *testing.T) { // 12.4
	d := disk.New()
	s := opened(t, d, config(0, 0))
	makes(t, d, 0, func() { is(t, s.Flush(), api.OK) }) // no records
	is(t, s.Upsert([]api.Point{at(7, 1), at(2, 2), at(7, 3)}), api.OK)
	is(t, s.Upsert([]api.Point{at(3, 4), at(4, 5)}), api.OK)
	is(t, s.Delete(3), api.OK)
	is(t, s.Delete(2), api.OK)
	is(t, s.Upsert([]api.Point{at(2, 6)}), api.OK)
	makes(t, d, 10, func() { is(t, s.Flush(), api.OK) }) // Write, Sync; Write, SyncNames, Sync; Write, Sync, Rename, SyncNames; Remove
	named(t, d, "l3", "manifest", "s2")
	holds(t, d, "s2", stands(5, at(2, 6)), gone(3, 3), stands(2, at(4, 5)), stands(1, at(7, 3))) // of each id the last, also that it is gone
	if b, _ := d.Read("l3"); b != "" {
		t.Fatalf("the log has %q", b)
	}
	counts(t, d, api.Manifest{Segments: []string{"s2"}, Log: "l3", Next: 4, Seq: 5})
	has(t, s, 5, at(2, 6), at(4, 5), at(7, 3))
	makes(t, d, 0, func() { is(t, s.Flush(), api.OK) })
	is(t, s.Delete(7), api.OK)
	is(t, s.Flush(), api.OK)
	holds(t, d, "s4", gone(6, 7)) // of the log's records alone
	counts(t, d, api.Manifest{Segments: []string{"s2", "s4"}, Log: "l5", Next: 6, Seq: 6})
	d.Crash(api.Crash{})
	named(t, d, "l3", "l5", "manifest", "s2", "s4") // the Remove is open
	has(t, opened(t, d, config(0, 0)), 6, at(2, 6), at(4, 5))
	named(t, d, "l5", "manifest", "s2", "s4")
}

func TestFlushOfWhatIsOpened(t *testing.T) { // 12.4: of the records that Open found
	d := disk.New()
	s := opened(t, d, config(0, 0))
	is(t, s.Upsert([]api.Point{at(1, 1), at(2, 2), at(1, 3)}), api.OK)
	is(t, s.Delete(2), api.OK)
	s = opened(t, d, config(0, 0))
	is(t, s.Upsert([]api.Point{at(4, 4)}), api.OK)
	is(t, s.Flush(), api.OK)
	holds(t, d, "s2", stands(1, at(1, 3)), gone(2, 2), stands(3, at(4, 4)))
	has(t, opened(t, d, config(0, 0)), 3, at(1, 3), at(4, 4))
}

func TestFlushRemovesWhatWasBegun(t *testing.T) { // 12.4: a file is made anew, a log is begun anew
	for _, left := range []string{"", "half of", logOf(2, goneBody(1)), segmentOf(at(5, 5))} {
		d := disk.New()
		s := opened(t, d, config(0, 0))
		is(t, s.Upsert([]api.Point{at(1, 1)}), api.OK)
		for _, name := range []string{"l3", "s2", "tmp"} {
			_, e := d.Write(name, left)
			is(t, e, api.OK)
		}
		makes(t, d, 13, func() { is(t, s.Flush(), api.OK) }) // and three more: Remove
		named(t, d, "l3", "manifest", "s2")
		holds(t, d, "s2", stands(1, at(1, 1)))
		d.Crash(api.Crash{})
		has(t, opened(t, d, config(0, 0)), 1, at(1, 1))
	}
}

func TestFlushRefusedAtEachStep(t *testing.T) { // 12.4
	for _, f := range []api.DiskFault{{Kind: api.FaultFail}, {Kind: api.FaultFull}, {Kind: api.FaultShort}, {Kind: api.FaultShort, N: 9}, {Kind: api.FaultShort, N: 1000}} {
		for place := 1; place <= 10; place++ {
			d := disk.New()
			s := opened(t, d, config(0, 0))
			is(t, s.Upsert([]api.Point{at(1, 1), at(2, 2)}), api.OK)
			is(t, s.Delete(2), api.OK)
			old := inDisk(t, d)
			log, _ := d.Read("l1")
			next := api.Manifest{Segments: []string{"s2"}, Log: "l3", Next: 4, Seq: 2}
			fault(t, d, place, f.Kind, f.N)
			want := api.ErrFault
			if f.Kind == api.FaultFull {
				want = api.ErrFull
			}
			if place == 10 { // Remove of the old log: its error plays no part
				want = api.OK
			}
			is(t, s.Flush(), want)
			has(t, s, 2, at(1, 1))
			switch {
			case place < 9: // ahead of the Rename, or there: all is as it was
				counts(t, d, old)
				if b, _ := d.Read("l1"); b != log || s.Broken() {
					t.Fatalf("place %d: %q, %v", place, b, s.Broken())
				}
				is(t, s.Upsert([]api.Point{at(3, 3)}), api.OK)
				is(t, s.Flush(), api.OK)
				counts(t, d, api.Manifest{Segments: []string{"s2"}, Log: "l3", Next: 4, Seq: 3}) // the same numbers
				named(t, d, "l3", "manifest", "s2")
			case place == 9: // SyncNames: the names are open
				counts(t, d, next)
				named(t, d, "l1", "l3", "manifest", "s2") // the old log stays: a crash may need it
				namesMended(t, d, s, "l3")
			default:
				counts(t, d, next)
				named(t, d, "l1", "l3", "manifest", "s2")
				makes(t, d, 2, func() { is(t, s.Upsert([]api.Point{at(3, 3)}), api.OK) })
			}
			seq := s.Seq()
			d.Crash(api.Crash{})
			has(t, opened(t, d, config(0, 0)), seq, at(1, 1), at(3, 3))
		}
	}
}

// namesMended wants that the store, whose names are open, has to be mended till the disk lets it; into that log 3 is written then.
func namesMended(t *testing.T, d *disk.Disk, s *Store, log string) {
	t.Helper()
	for _, call := range []func() api.Errno{s.Flush, s.Compact, func() api.Errno { return s.Upsert([]api.Point{at(3, 3)}) }, func() api.Errno { return s.Delete(1) }} {
		if !s.Broken() {
			t.Fatal("not broken")
		}
		fault(t, d, 1, api.FaultFull, 0) // SyncNames
		makes(t, d, 1, func() { is(t, call(), api.ErrFull) })
	}
	makes(t, d, 0, func() { is(t, s.Delete(9), api.ErrNone) })
	if !s.Broken() {
		t.Fatal("not broken")
	}
	makes(t, d, 3, func() { is(t, s.Upsert([]api.Point{at(3, 3)}), api.OK) }) // SyncNames, Write, Sync
	if b, _ := d.Read(log); b == "" || s.Broken() {
		t.Fatalf("%s has %q; %v", log, b, s.Broken())
	}
	makes(t, d, 2, func() { is(t, s.Upsert([]api.Point{at(3, 3)}), api.OK) }) // mended once and for all
	makes(t, d, 2, func() { is(t, s.Delete(3), api.OK) })
	makes(t, d, 2, func() { is(t, s.Upsert([]api.Point{at(3, 3)}), api.OK) })
	has(t, s, s.Seq(), at(1, 1), at(3, 3))
}

func TestFlushMends(t *testing.T) { // 12.4, 12.5: by SyncNames alone, where there is nothing else to do
	for _, call := range []func(*Store) api.Errno{(*Store).Flush, (*Store).Compact} {
		d := disk.New()
		s := opened(t, d, config(0, 0))
		is(t, s.Upsert([]api.Point{at(1, 1)}), api.OK)
		fault(t, d, 9, api.FaultFail, 0)
		is(t, s.Flush(), api.ErrFault)
		makes(t, d, 1, func() { is(t, call(s), api.OK) })
		if s.Broken() {
			t.Fatal("broken")
		}
		makes(t, d, 0, func() { is(t, call(s), api.OK) })
		d.Crash(api.Crash{})
		counts(t, d, api.Manifest{Segments: []string{"s2"}, Log: "l3", Next: 4, Seq: 1})
	}
}

func TestFlushMendsTheLog(t *testing.T) { // 12.4: what was refused is in no segment
	d := disk.New()
	s := opened(t, d, config(0, 0))
	is(t, s.Upsert([]api.Point{at(1, 1)}), api.OK)
	fault(t, d, 2, api.FaultFail, 0)
	is(t, s.Upsert([]api.Point{at(2, 2)}), api.ErrFault)
	makes(t, d, 12, func() { is(t, s.Flush(), api.OK) }) // Cut, Sync, and a flush
	holds(t, d, "s2", stands(1, at(1, 1)))
	counts(t, d, api.Manifest{Segments: []string{"s2"}, Log: "l3", Next: 4, Seq: 1})
	if s.Broken() {
		t.Fatal("broken")
	}
	fault(t, d, 1, api.FaultShort, 9) // and in a new log
	is(t, s.Delete(1), api.ErrFault)
	makes(t, d, 2, func() { is(t, s.Flush(), api.OK) }) // there are no records
	named(t, d, "l3", "manifest", "s2")
	if b, _ := d.Read("l3"); b != "" {
		t.Fatalf("%q", b)
	}
}

func TestFlushWithoutMoreSegments(t *testing.T) { // 12.4: manifest.Store's error; all is as it was
	d := disk.New()
	s := opened(t, d, config(1, 0))
	for i := range 1024 {
		is(t, s.Upsert([]api.Point{at(1+i%7, i%100)}), api.OK)
	}
	full := inDisk(t, d)
	if len(full.Segments) != 1024 {
		t.Fatalf("%d segments", len(full.Segments))
	}
	is(t, s.Upsert([]api.Point{at(8, 8)}), api.OK) // nothing is told of its Flush
	is(t, s.Flush(), api.ErrManifest)
	if s.Broken() {
		t.Fatal("broken")
	}
	counts(t, d, full)
	is(t, s.Compact(), api.OK)
	is(t, s.Flush(), api.OK)
	if m := inDisk(t, d); len(m.Segments) != 2 || m.Seq != 1025 {
		t.Fatalf("%v", m)
	}
	has(t, opened(t, d, config(0, 0)), 1025, s.Points()...)
}

func TestFlushWithoutMoreNumbers(t *testing.T) { // 12.4, 12.5: likewise
	for _, x := range []struct {
		next           int
		flush, compact api.Errno
	}{{api.MaxId, api.ErrManifest, api.ErrManifest}, {api.MaxId - 1, api.ErrManifest, api.OK}, {api.MaxId - 2, api.OK, api.ErrManifest}, {api.MaxId - 3, api.OK, api.OK}} {
		m := api.Manifest{Segments: []string{"s1", "s2"}, Log: "l3", Next: x.next, Seq: 9}
		d := on(t, "l3", logOf(10, bodyOf(at(6, 6))), "manifest", manifestOf(m), "s1", segmentOf(at(1, 1)), "s2", segmentOf(at(2, 2)))
		s := opened(t, d, config(0, 0))
		is(t, s.Flush(), x.flush)
		is(t, s.Compact(), x.compact)
		if s.Broken() {
			t.Fatal("broken")
		}
		has(t, s, 10, at(1, 1), at(2, 2), at(6, 6))
		has(t, opened(t, d, config(0, 0)), 10, at(1, 1), at(2, 2), at(6, 6))
	}
}

func TestCompact(t *testing.T) { // 12.5
	d := disk.New()
	s := opened(t, d, config(0, 0))
	makes(t, d, 0, func() { is(t, s.Compact(), api.OK) })
	is(t, s.Upsert([]api.Point{at(1, 1), at(2, 2), at(3, 3)}), api.OK)
	makes(t, d, 0, func() { is(t, s.Compact(), api.OK) })
	is(t, s.Flush(), api.OK)
	makes(t, d, 0, func() { is(t, s.Compact(), api.OK) }) // one segment
	is(t, s.Delete(1), api.OK)
	is(t, s.Upsert([]api.Point{at(3, 4)}), api.OK)
	is(t, s.Flush(), api.OK)
	is(t, s.Delete(3), api.OK)                            // in the log: it stays there
	makes(t, d, 8, func() { is(t, s.Compact(), api.OK) }) // Write, Sync; Write, Sync, Rename, SyncNames; Remove, Remove
	named(t, d, "l5", "manifest", "s6")
	counts(t, d, api.Manifest{Segments: []string{"s6"}, Log: "l5", Next: 7, Seq: 3})
	holds(t, d, "s6", stands(1, at(2, 2)), stands(3, at(3, 4))) // what is gone is away
	has(t, s, 4, at(2, 2))
	makes(t, d, 0, func() { is(t, s.Compact(), api.OK) })
	d.Crash(api.Crash{})
	has(t, opened(t, d, config(0, 0)), 4, at(2, 2))
	named(t, d, "l5", "manifest", "s6")
}

func TestCompactOfAllGone(t *testing.T) { // 12.5: a segment of nothing
	d := disk.New()
	s := opened(t, d, config(1, 2))
	is(t, s.Upsert([]api.Point{at(1, 1)}), api.OK)
	is(t, s.Delete(1), api.OK)
	named(t, d, "l5", "manifest", "s6")
	holds(t, d, "s6")
	has(t, opened(t, d, config(1, 2)), 2)
	is(t, s.Upsert([]api.Point{at(2, 2)}), api.OK)
	named(t, d, "l8", "manifest", "s9")
	has(t, opened(t, d, config(1, 2)), 3, at(2, 2))
}

func TestCompactRemovesWhatWasBegun(t *testing.T) { // 12.5: made anew
	d := laid(t)
	s := opened(t, d, config(0, 0))
	for _, name := range []string{"s6", "tmp"} {
		_, e := d.Write(name, "half of")
		is(t, e, api.OK)
	}
	makes(t, d, 10, func() { is(t, s.Compact(), api.OK) })
	named(t, d, "l5", "manifest", "s6")
	has(t, opened(t, d, config(0, 0)), 6, at(2, 3), at(3, 4))
}

func TestCompactRefusedAtEachStep(t *testing.T) { // 12.5
	for _, kind := range []int{api.FaultFail, api.FaultFull} {
		for place := 1; place <= 8; place++ {
			d := disk.New()
			s := opened(t, d, config(0, 0))
			is(t, s.Upsert([]api.Point{at(1, 1), at(2, 2)}), api.OK)
			is(t, s.Flush(), api.OK)
			is(t, s.Delete(2), api.OK)
			is(t, s.Flush(), api.OK)
			old := inDisk(t, d)
			next := api.Manifest{Segments: []string{"s6"}, Log: "l5", Next: 7, Seq: 2}
			fault(t, d, place, kind, 0)
			want := api.ErrFault
			if kind == api.FaultFull {
				want = api.ErrFull
			}
			if place > 6 {
				want = api.OK
			}
			is(t, s.Compact(), want)
			has(t, s, 2, at(1, 1))
			switch {
			case place < 6:
				counts(t, d, old)
				if s.Broken() {
					t.Fatal("broken")
				}
				is(t, s.Compact(), api.OK)
				counts(t, d, next)
				named(t, d, "l5", "manifest", "s6")
				is(t, s.Upsert([]api.Point{at(3, 3)}), api.OK)
			case place == 6:
				counts(t, d, next)
				named(t, d, "l5", "manifest", "s2", "s4", "s6")
				namesMended(t, d, s, "l5")
			case place == 7: // in order: the first stays
				named(t, d, "l5", "manifest", "s2", "s6")
				is(t, s.Upsert([]api.Point{at(3, 3)}), api.OK)
			default:
				named(t, d, "l5", "manifest", "s4", "s6")
				is(t, s.Upsert([]api.Point{at(3, 3)}), api.OK)
			}
			seq := s.Seq()
			d.Crash(api.Crash{})
			s = opened(t, d, config(0, 0))
			has(t, s, seq, at(1, 1), at(3, 3))
			named(t, d, "l5", "manifest", "s6")
			is(t, s.Flush(), api.OK)
			is(t, s.Compact(), api.OK)
			has(t, opened(t, d, config(0, 0)), seq, at(1, 1), at(3, 3))
		}
	}
}

func TestCompactBySegmentsKept(t *testing.T) { // 12.5: of several that were merged, then flushed, then merged
	d := disk.New()
	s := opened(t, d, config(0, 0))
	want := map[int]api.Point{}
	for i := range 40 {
		is(t, s.Upsert([]api.Point{at(1+i*i%11, i), at(1+i%3, i)}), api.OK)
		want[1+i*i%11], want[1+i%3] = at(1+i*i%11, i), at(1+i%3, i)
		if i%2 == 1 {
			is(t, s.Flush(), api.OK)
		}
		if i%7 == 6 {
			is(t, s.Delete(1+i%3), api.OK)
			delete(want, 1+i%3)
			is(t, s.Compact(), api.OK)
		}
		if i%10 == 9 {
			s = opened(t, d, config(0, 0))
		}
		has(t, s, s.Seq(), rising(want)...)
	}
}

func TestExample(t *testing.T) { // Examples
	d := disk.New()
	s := opened(t, d, config(0, 0))
	named(t, d, "l1", "manifest")
	is(t, s.Upsert([]api.Point{at(1, 1), at(2, 2)}), api.OK)
	is(t, s.Delete(1), api.OK)
	has(t, s, 2, at(2, 2))
	is(t, s.Delete(1), api.ErrNone)
	is(t, s.Flush(), api.OK)
	named(t, d, "l3", "manifest", "s2")
	is(t, s.Upsert([]api.Point{at(1, 3)}), api.OK)
	is(t, s.Flush(), api.OK)
	named(t, d, "l5", "manifest", "s2", "s4")
	is(t, s.Compact(), api.OK)
	named(t, d, "l5", "manifest", "s6")
	d.Crash(api.Crash{})
	s = opened(t, d, config(0, 0))
	has(t, s, 3, at(1, 3), at(2, 2))
	fault(t, d, 1, api.FaultFull, 0)
	is(t, s.Upsert([]api.Point{at(5, 5)}), api.ErrFull)
	if !s.Broken() {
		t.Fatal("not broken")
	}
	is(t, s.Upsert([]api.Point{at(5, 5)}), api.OK)
	has(t, s, 4, at(1, 3), at(2, 2), at(5, 5))
}

func TestManifestOfAnother(t *testing.T) { // R1: while one is open the disk gets another's manifest
	d := disk.New()
	s := opened(t, d, config(0, 0))
	is(t, s.Upsert([]api.Point{at(1, 1)}), api.OK)
	is(t, manifest.Store(d, api.Manifest{Log: "l7", Next: 8}), api.OK)
	fault(t, d, 5, api.FaultFail, 0)
	is(t, s.Flush(), api.ErrFault)
	has(t, s, 1, at(1, 1))
	if s.Broken() {
		t.Fatal("broken")
	}
	is(t, s.Flush(), api.OK)
	has(t, opened(t, d, config(0, 0)), 1, at(1, 1))
	if !slices.Contains(d.Names(), "s2") {
		t.Fatal(d.Names())
	}
}
