package store

import (
	"math"
	"slices"
	"strings"
	"testing"

	"lodestar/api"
	"lodestar/disk"
	"lodestar/manifest"
	"lodestar/payload"
)

// The face of the chapter: each call with its exact signature.
var (
	_ func(*disk.Disk, api.Config) (*Store, api.Errno) = Open
	_ func(*Store, []api.Point) api.Errno              = (*Store).Upsert
	_ func(*Store, int) api.Errno                      = (*Store).Delete
	_ func(*Store, int) (api.Point, bool)              = (*Store).Get
	_ func(*Store) []api.Point                         = (*Store).Points
	_ func(*Store) int                                 = (*Store).Len
	_ func(*Store) int                                 = (*Store).Seq
	_ func(*Store) api.Errno                           = (*Store).Flush
	_ func(*Store) api.Errno                           = (*Store).Compact
	_ func(*Store) bool                                = (*Store).Broken
)

// is wants this error.
func is(t *testing.T, e, want api.Errno) {
	t.Helper()
	if e != want {
		t.Fatalf("error %d, want %d", e, want)
	}
}

// config answers a config of a schema with two vectors and three fields.
func config(flush, compact int) api.Config {
	return api.Config{Schema: api.Schema{
		Vectors: []api.VecSpec{{Name: "v", Dim: 2, Metric: api.MetricL2}, {Name: "w", Dim: 1, Metric: api.MetricCos}},
		Fields:  []api.FieldSpec{{Name: "city", Kind: api.KindWord}, {Name: "open", Kind: api.KindBool}, {Name: "size", Kind: api.KindInt}},
	}, Flush: flush, Compact: compact}
}

// at answers a point of that id, told apart from others by n.
func at(id, n int) api.Point {
	return api.Point{Id: id, Vectors: []api.Vec{{Name: "v", V: []int{n, -n}}, {Name: "w", V: []int{1 + n}}}, Fields: []api.Field{{Name: "size", Value: api.Value{Kind: api.KindInt, N: n}}}}
}

// opened wants of Open a store that need not be mended.
func opened(t *testing.T, d *disk.Disk, c api.Config) *Store {
	t.Helper()
	s, e := Open(d, c)
	if s == nil || e != api.OK || s.Broken() {
		t.Fatalf("Open: %v, %d", s, e)
	}
	return s
}

// notOpened wants of Open this error alone.
func notOpened(t *testing.T, d *disk.Disk, c api.Config, want api.Errno) {
	t.Helper()
	if s, e := Open(d, c); s != nil || e != want {
		t.Fatalf("Open: %v, %d, want %d", s, e, want)
	}
}

// has wants that the store has just these points, and that so many writes made them; the points rise.
func has(t *testing.T, s *Store, seq int, want ...api.Point) {
	t.Helper()
	if got := s.Points(); !slices.EqualFunc(got, want, payload.Same) || s.Len() != len(want) || s.Seq() != seq {
		t.Fatalf("%v, Len %d, Seq %d, want %v, Seq %d", got, s.Len(), s.Seq(), want, seq)
	}
	for _, p := range want {
		if got, ok := s.Get(p.Id); !ok || !payload.Same(got, p) {
			t.Fatalf("Get(%d): %v, %v, want %v", p.Id, got, ok, p)
		}
	}
}

// hasNot wants that the store has no point of these ids.
func hasNot(t *testing.T, s *Store, ids ...int) {
	t.Helper()
	for _, id := range ids {
		if p, ok := s.Get(id); ok || !payload.Same(p, api.Point{}) {
			t.Fatalf("Get(%d): %v, %v", id, p, ok)
		}
	}
}

// named wants that the disk has files of just these names, rising.
func named(t *testing.T, d *disk.Disk, want ...string) {
	t.Helper()
	if got := d.Names(); !slices.Equal(got, want) {
		t.Fatalf("the disk has %q, want %q", got, want)
	}
}

// files answers the disk's files: names and bytes, by turns, rising.
func files(t *testing.T, d *disk.Disk) []string {
	t.Helper()
	var got []string
	for _, name := range d.Names() {
		s, e := d.Read(name)
		is(t, e, api.OK)
		got = append(got, name, s)
	}
	return got
}

// on answers a disk with these files: names and bytes, by turns; all of it lasts.
func on(t *testing.T, l ...string) *disk.Disk {
	t.Helper()
	d := disk.New()
	for i := 0; i < len(l); i += 2 {
		_, e := d.Write(l[i], l[i+1])
		is(t, e, api.OK)
	}
	d.Crash(api.Crash{Names: len(l), Bytes: []int{math.MaxInt}})
	return d
}

// fault plans that the disk's step of that place from now on (1: the next) goes wrong.
func fault(t *testing.T, d *disk.Disk, place, kind, n int) {
	t.Helper()
	is(t, d.Plan([]api.DiskFault{{Step: d.Steps() + place, Kind: kind, N: n}}), api.OK)
}

// makes wants that the call makes so many steps.
func makes(t *testing.T, d *disk.Disk, want int, call func()) {
	t.Helper()
	was := d.Steps()
	call()
	if got := d.Steps() - was; got != want {
		t.Fatalf("%d steps, want %d", got, want)
	}
}

// inDisk answers the manifest that the disk tells.
func inDisk(t *testing.T, d *disk.Disk) api.Manifest {
	t.Helper()
	m, ok, e := manifest.Load(d)
	if !ok || e != api.OK {
		t.Fatalf("Load: %v, %v, %d", m, ok, e)
	}
	return m
}

// counts wants that the disk tells this manifest.
func counts(t *testing.T, d *disk.Disk, want api.Manifest) {
	t.Helper()
	if got := inDisk(t, d); !slices.Equal(got.Segments, want.Segments) || got.Log != want.Log || got.Next != want.Next || got.Seq != want.Seq {
		t.Fatalf("the manifest is %v, want %v", got, want)
	}
}

func TestUpsert(t *testing.T) { // 12.2, 12.3
	d := disk.New()
	s := opened(t, d, config(0, 0))
	has(t, s, 0)
	makes(t, d, 2, func() { is(t, s.Upsert([]api.Point{at(7, 1), at(2, 2)}), api.OK) }) // Write, Sync
	has(t, s, 1, at(2, 2), at(7, 1))
	is(t, s.Upsert([]api.Point{at(3, 3), at(7, 4)}), api.OK)
	has(t, s, 2, at(2, 2), at(3, 3), at(7, 4))
	hasNot(t, s, 1, 4, 0, -1, math.MinInt, math.MaxInt)
	is(t, s.Upsert([]api.Point{at(3, 3)}), api.OK) // the same again is a write
	has(t, s, 3, at(2, 2), at(3, 3), at(7, 4))
	named(t, d, "l1", "manifest")
}

func TestUpsertOfOneIdTwice(t *testing.T) { // Words: the last of them
	for _, c := range []api.Config{config(0, 0), config(1, 0), config(1, 2)} {
		d := disk.New()
		s := opened(t, d, c)
		is(t, s.Upsert([]api.Point{at(5, 1), at(6, 2), at(5, 3), at(6, 4), at(5, 5)}), api.OK)
		has(t, s, 1, at(5, 5), at(6, 4))
		has(t, opened(t, d, c), 1, at(5, 5), at(6, 4))
		is(t, s.Upsert([]api.Point{at(6, 7), at(6, 6)}), api.OK)
		d.Crash(api.Crash{})
		has(t, opened(t, d, c), 2, at(5, 5), at(6, 6))
	}
}

func TestUpsertReplacesAllOfAPoint(t *testing.T) { // Words: its newest point, nothing of an older one
	s := opened(t, disk.New(), config(0, 0))
	bare := api.Point{Id: 4, Vectors: []api.Vec{{Name: "w", V: []int{-1}}}}
	is(t, s.Upsert([]api.Point{at(4, 9)}), api.OK)
	is(t, s.Upsert([]api.Point{bare}), api.OK)
	has(t, s, 2, bare)
}

// greatest answers a config and a point of its schema that has all that a point may have.
func greatest() (api.Config, api.Point) {
	var c api.Config
	p := api.Point{Id: api.MaxId}
	for i := range api.MaxFields {
		name := strings.Repeat("n", 31) + string(rune('a'+i))
		c.Schema.Fields = append(c.Schema.Fields, api.FieldSpec{Name: name, Kind: api.KindWord})
		p.Fields = append(p.Fields, api.Field{Name: name, Value: api.Value{Kind: api.KindWord, Text: strings.Repeat("x", api.MaxWord)}})
		if i < api.MaxVectors {
			c.Schema.Vectors = append(c.Schema.Vectors, api.VecSpec{Name: name, Dim: api.MaxDim, Metric: api.MetricDot})
			p.Vectors = append(p.Vectors, api.Vec{Name: name, V: slices.Repeat([]int{-32768}, api.MaxDim)})
		}
	}
	return c, p
}

func TestUpsertOfTheGreatest(t *testing.T) { // 12.2: as many points as may be, as great as may be, in one record
	c, p := greatest()
	d := disk.New()
	s := opened(t, d, c)
	var l []api.Point
	for i := range api.MaxPoints {
		p.Id = api.MaxId - api.MaxPoints + 1 + i
		l = append(l, p)
	}
	is(t, s.Upsert(l), api.OK)
	has(t, s, 1, l...)
	has(t, opened(t, d, c), 1, l...)
	is(t, s.Flush(), api.OK)
	has(t, opened(t, d, c), 1, l...)
}

func TestUpsertRefuses(t *testing.T) { // 12.2: nothing is done, and nothing changed
	d := disk.New()
	s := opened(t, d, config(1, 2))
	is(t, s.Upsert([]api.Point{at(1, 1)}), api.OK)
	many := slices.Repeat([]api.Point{at(2, 2)}, api.MaxPoints+1)
	unnamed, short, unknown, great := at(2, 2), at(2, 2), at(2, 2), at(2, 2)
	unnamed.Vectors = nil
	short.Vectors[0].V = []int{1}
	unknown.Fields[0].Name = "sizes"
	great.Id = api.MaxId + 1
	zero := api.Point{Id: 2, Vectors: []api.Vec{{Name: "w", V: []int{0}}}}
	before := files(t, d)
	for _, x := range []struct {
		l    []api.Point
		want api.Errno
	}{
		{nil, api.ErrPoint},
		{[]api.Point{}, api.ErrPoint},
		{many, api.ErrPoint},
		{append([]api.Point{short}, many...), api.ErrPoint}, // named ahead of the points' own errors
		{[]api.Point{at(0, 1)}, api.ErrPoint},
		{[]api.Point{at(-1, 1)}, api.ErrPoint},
		{[]api.Point{great}, api.ErrPoint},
		{[]api.Point{unnamed}, api.ErrPoint},
		{[]api.Point{short}, api.ErrVector},
		{[]api.Point{zero}, api.ErrVector},
		{[]api.Point{unknown}, api.ErrField},
		{[]api.Point{at(2, 2), unknown, short}, api.ErrField}, // of the points in their order
		{[]api.Point{at(2, 2), short, unknown}, api.ErrVector},
		{append(many[2:], unnamed), api.ErrPoint},
	} {
		makes(t, d, 0, func() { is(t, s.Upsert(x.l), x.want) })
		has(t, s, 1, at(1, 1))
		if s.Broken() || !slices.Equal(files(t, d), before) {
			t.Fatalf("%v left %v, %q", x.l, s.Broken(), files(t, d))
		}
	}
	is(t, s.Upsert(many[1:]), api.OK)
	has(t, s, 2, at(1, 1), at(2, 2))
}

func TestDelete(t *testing.T) { // 12.2, 12.3
	d := disk.New()
	s := opened(t, d, config(0, 0))
	is(t, s.Delete(1), api.ErrNone)
	is(t, s.Upsert([]api.Point{at(1, 1), at(2, 2), at(api.MaxId, 3)}), api.OK)
	makes(t, d, 2, func() { is(t, s.Delete(1), api.OK) }) // Write, Sync
	has(t, s, 2, at(2, 2), at(api.MaxId, 3))
	hasNot(t, s, 1)
	for _, id := range []int{1, 3, 0, -2, api.MaxId + 1, math.MinInt, math.MaxInt} {
		makes(t, d, 0, func() { is(t, s.Delete(id), api.ErrNone) })
	}
	has(t, s, 2, at(2, 2), at(api.MaxId, 3))
	is(t, s.Delete(api.MaxId), api.OK)
	is(t, s.Upsert([]api.Point{at(1, 4)}), api.OK) // there again
	has(t, s, 4, at(1, 4), at(2, 2))
	is(t, s.Delete(2), api.OK)
	is(t, s.Delete(1), api.OK)
	has(t, s, 6)
	has(t, opened(t, d, config(0, 0)), 6)
}

func TestWriteRefused(t *testing.T) { // 12.2: the state stays what it was, and the log counts as broken
	for _, kind := range []int{api.FaultFail, api.FaultFull, api.FaultShort} {
		for place := 1; place <= 2; place++ {
			for _, write := range []func(*Store) api.Errno{
				func(s *Store) api.Errno { return s.Upsert([]api.Point{at(2, 2), at(3, 3)}) },
				func(s *Store) api.Errno { return s.Delete(1) },
			} {
				for _, n := range []int{0, 1, 15, 16, 20, 40, 1000} {
					if kind != api.FaultShort {
						n = 0
					}
					d := disk.New()
					s := opened(t, d, config(0, 0))
					is(t, s.Upsert([]api.Point{at(1, 1)}), api.OK)
					good, _ := d.Read("l1")
					fault(t, d, place, kind, n)
					want := api.ErrFault
					if kind == api.FaultFull {
						want = api.ErrFull
					}
					makes(t, d, place, func() { is(t, write(s), want) })
					has(t, s, 1, at(1, 1))
					if !s.Broken() {
						t.Fatal("not broken")
					}
					mended(t, d, s, good)
				}
			}
		}
	}
}

// mended wants that the store, whose log is broken behind the good bytes, has to be mended till the disk lets it, and is then as if nothing had been.
func mended(t *testing.T, d *disk.Disk, s *Store, good string) {
	t.Helper()
	// What the state does not let be is told without mending.
	makes(t, d, 0, func() { is(t, s.Delete(9), api.ErrNone); is(t, s.Upsert(nil), api.ErrPoint) })
	fault(t, d, 1, api.FaultFull, 0) // Cut
	makes(t, d, 1, func() { is(t, s.Upsert([]api.Point{at(4, 4)}), api.ErrFull) })
	fault(t, d, 2, api.FaultFail, 0) // wal.Open's Sync
	makes(t, d, 2, func() { is(t, s.Delete(1), api.ErrFault) })
	fault(t, d, 2, api.FaultFail, 0)
	makes(t, d, 2, func() { is(t, s.Flush(), api.ErrFault) })
	fault(t, d, 1, api.FaultFail, 0)
	makes(t, d, 1, func() { is(t, s.Compact(), api.ErrFault) })
	has(t, s, 1, at(1, 1))
	if !s.Broken() {
		t.Fatal("not broken")
	}
	makes(t, d, 2, func() { is(t, s.Compact(), api.OK) })
	if got, _ := d.Read("l1"); got != good || s.Broken() {
		t.Fatalf("the log has %q, want %q; %v", got, good, s.Broken())
	}
	makes(t, d, 0, func() { is(t, s.Compact(), api.OK) })
	fault(t, d, 1, api.FaultFail, 0)
	is(t, s.Delete(1), api.ErrFault)
	makes(t, d, 4, func() { is(t, s.Upsert([]api.Point{at(4, 4)}), api.OK) }) // Cut, Sync; Write, Sync
	has(t, s, 2, at(1, 1), at(4, 4))
	if s.Broken() {
		t.Fatal("broken")
	}
	d.Crash(api.Crash{})
	has(t, opened(t, d, config(0, 0)), 2, at(1, 1), at(4, 4))
}

func TestWriteThatWasRefusedMayBeThere(t *testing.T) { // 12.7: as the last one, if nothing was mended behind it
	for _, x := range []struct {
		bytes int
		there bool
	}{{0, false}, {28, false}, {29, true}, {math.MaxInt, true}} {
		for _, crash := range []bool{false, true} {
			d := disk.New()
			s := opened(t, d, config(0, 0))
			is(t, s.Upsert([]api.Point{at(1, 1), at(2, 2)}), api.OK)
			fault(t, d, 2, api.FaultFail, 0)
			is(t, s.Delete(1), api.ErrFault)
			want, seq := []api.Point{at(1, 1), at(2, 2)}, 1
			if !crash || x.there {
				want, seq = want[1:], 2
			}
			if crash {
				d.Crash(api.Crash{Bytes: []int{x.bytes}})
			}
			has(t, opened(t, d, config(0, 0)), seq, want...)
			d.Crash(api.Crash{})
			has(t, opened(t, d, config(0, 0)), seq, want...)
		}
	}
}

func TestWriteMendedByAnother(t *testing.T) { // 12.2, 12.7: what was refused is away then, also behind a crash that leaves all bytes
	for _, mend := range []func(*Store) api.Errno{(*Store).Flush, (*Store).Compact} {
		d := disk.New()
		s := opened(t, d, config(0, 0))
		is(t, s.Upsert([]api.Point{at(1, 1)}), api.OK)
		fault(t, d, 2, api.FaultFail, 0)
		is(t, s.Delete(1), api.ErrFault)
		is(t, mend(s), api.OK)
		d.Crash(api.Crash{Names: 9, Bytes: []int{math.MaxInt}})
		has(t, opened(t, d, config(0, 0)), 1, at(1, 1))
	}
}

func TestWriteBehindTheLastNumber(t *testing.T) { // 12.2: Append refuses it, so that the log counts as broken
	d := disk.New()
	is(t, manifest.Store(d, api.Manifest{Log: "l1", Next: 2, Seq: api.MaxId - 1}), api.OK)
	s := opened(t, d, config(0, 0))
	has(t, s, api.MaxId-1)
	is(t, s.Upsert([]api.Point{at(1, 1)}), api.OK)
	for range 3 {
		is(t, s.Delete(1), api.ErrArg)
		has(t, s, api.MaxId, at(1, 1))
		if !s.Broken() {
			t.Fatal("not broken")
		}
	}
	is(t, s.Flush(), api.OK)
	if s.Broken() {
		t.Fatal("broken")
	}
	is(t, s.Delete(1), api.ErrArg)
	has(t, opened(t, d, config(0, 0)), api.MaxId, at(1, 1))
}

func TestWritesFlush(t *testing.T) { // 12.2: with so many records
	d := disk.New()
	s := opened(t, d, config(3, 0))
	is(t, s.Upsert([]api.Point{at(1, 1), at(2, 2), at(3, 3), at(4, 4)}), api.OK) // writes count, not points
	is(t, s.Delete(1), api.OK)
	named(t, d, "l1", "manifest")
	is(t, s.Delete(2), api.OK)
	named(t, d, "l3", "manifest", "s2")
	counts(t, d, api.Manifest{Segments: []string{"s2"}, Log: "l3", Next: 4, Seq: 3})
	is(t, s.Upsert([]api.Point{at(1, 5)}), api.OK)
	is(t, s.Flush(), api.OK) // and begins to count anew
	is(t, s.Delete(3), api.OK)
	is(t, s.Delete(4), api.OK)
	named(t, d, "l5", "manifest", "s2", "s4")
	is(t, s.Upsert([]api.Point{at(7, 5)}), api.OK)
	named(t, d, "l7", "manifest", "s2", "s4", "s6")
	has(t, s, 7, at(1, 5), at(7, 5))
	has(t, opened(t, d, config(0, 0)), 7, at(1, 5), at(7, 5))
}

func TestWritesFlushWhatIsOpened(t *testing.T) { // 12.2: as many records or more
	d := disk.New()
	s := opened(t, d, config(0, 0))
	for i := range 5 {
		is(t, s.Upsert([]api.Point{at(1+i, i)}), api.OK)
	}
	s = opened(t, d, config(2, 0)) // an Open does not flush
	named(t, d, "l1", "manifest")
	is(t, s.Delete(9), api.ErrNone) // nor does what is no write
	named(t, d, "l1", "manifest")
	is(t, s.Delete(2), api.OK)
	named(t, d, "l3", "manifest", "s2")
	has(t, s, 6, at(1, 0), at(3, 2), at(4, 3), at(5, 4))
}

func TestWritesCompact(t *testing.T) { // 12.2: behind a flush, with so many segments
	d := disk.New()
	s := opened(t, d, config(1, 3))
	is(t, s.Upsert([]api.Point{at(1, 1)}), api.OK)
	named(t, d, "l3", "manifest", "s2")
	is(t, s.Upsert([]api.Point{at(2, 2)}), api.OK)
	named(t, d, "l5", "manifest", "s2", "s4")
	is(t, s.Delete(1), api.OK)
	named(t, d, "l7", "manifest", "s8")
	counts(t, d, api.Manifest{Segments: []string{"s8"}, Log: "l7", Next: 9, Seq: 3})
	is(t, s.Delete(2), api.OK)
	named(t, d, "l10", "manifest", "s8", "s9")
	has(t, s, 4)
	s = opened(t, d, config(2, 2)) // an Open does not compact, nor does a write that does not flush
	is(t, s.Upsert([]api.Point{at(1, 1)}), api.OK)
	named(t, d, "l10", "manifest", "s8", "s9")
	is(t, s.Upsert([]api.Point{at(1, 2)}), api.OK) // as many segments or more
	named(t, d, "l12", "manifest", "s13")
	has(t, s, 6, at(1, 2))
}

func TestWritesNeitherFlushNorCompact(t *testing.T) { // 12.2: 0: never
	d := disk.New()
	s := opened(t, d, config(0, 2))
	for i := range 20 {
		is(t, s.Upsert([]api.Point{at(1+i, i)}), api.OK)
	}
	named(t, d, "l1", "manifest")
	s = opened(t, d, config(1, 0))
	for i := range 5 {
		is(t, s.Delete(1+i), api.OK)
	}
	named(t, d, "l11", "manifest", "s10", "s2", "s4", "s6", "s8")
}

func TestWritesTellNothingOfAFlush(t *testing.T) { // 12.2: the write is answered OK, and lasts
	for place := 3; place <= 21; place++ {
		d := disk.New()
		s := opened(t, d, config(1, 2))
		is(t, s.Upsert([]api.Point{at(1, 1), at(2, 2)}), api.OK)
		fault(t, d, place, api.FaultFail, 0)
		is(t, s.Delete(1), api.OK)
		has(t, s, 2, at(2, 2))
		if want := place == 11 || place == 18; s.Broken() != want { // manifest.Store's SyncNames, of Flush and of Compact
			t.Fatalf("place %d: Broken %v", place, s.Broken())
		}
		segments := 1 // refused behind Compact's Rename, or not at all
		switch {
		case place < 11: // ahead of Flush's Rename, or there: no Compact
		case place == 11: // nor here
			segments = 2
		case 13 <= place && place < 18:
			segments = 2
		}
		if got := len(inDisk(t, d).Segments); got != segments {
			t.Fatalf("place %d: %d segments, want %d", place, got, segments)
		}
		d.Crash(api.Crash{})
		has(t, opened(t, d, config(1, 2)), 2, at(2, 2))
	}
}

func TestGetAndPointsOfMany(t *testing.T) { // 12.3: by rising ids, as numbers
	s := opened(t, disk.New(), config(0, 0))
	var want []api.Point
	for i := range 300 {
		id := (i*7919)%300*1000 + 1
		is(t, s.Upsert([]api.Point{at(id, i)}), api.OK)
		want = append(want, at(id, i))
	}
	slices.SortFunc(want, func(a, b api.Point) int { return a.Id - b.Id })
	has(t, s, 300, want...)
}

func TestNilStore(t *testing.T) { // 12.6
	var s *Store
	is(t, s.Upsert([]api.Point{at(1, 1)}), api.ErrArg)
	is(t, s.Upsert(nil), api.ErrArg)
	is(t, s.Delete(1), api.ErrArg)
	is(t, s.Flush(), api.ErrArg)
	is(t, s.Compact(), api.ErrArg)
	hasNot(t, s, 1, 0)
	if s.Points() != nil || s.Len() != 0 || s.Seq() != 0 || !s.Broken() {
		t.Fatal("a nil store has something")
	}
}

func TestStoreOfNoCall(t *testing.T) { // R1
	s := &Store{}
	is(t, s.Upsert([]api.Point{at(1, 1)}), api.ErrSchema)
	is(t, s.Delete(1), api.ErrNone)
	is(t, s.Flush(), api.OK)
	is(t, s.Compact(), api.OK)
	has(t, s, 0)
}

func TestStoreWithoutItsFiles(t *testing.T) { // R1: the disk is the caller's as well
	for _, name := range []string{"l3", "manifest", "s2"} {
		d := disk.New()
		s := opened(t, d, config(0, 0))
		is(t, s.Upsert([]api.Point{at(1, 1)}), api.OK)
		is(t, s.Flush(), api.OK)
		is(t, s.Upsert([]api.Point{at(2, 2)}), api.OK)
		is(t, d.Remove(name), api.OK)
		s.Upsert([]api.Point{at(3, 3)})
		fault(t, d, 1, api.FaultFail, 0)
		s.Delete(3)
		s.Delete(1)
		s.Flush()
		s.Compact()
		has(t, s, s.Seq(), s.Points()...)
	}
}

// wipe lays other things everywhere in the lists of p.
func wipe(p api.Point) {
	for i, x := range p.Vectors {
		for k := range x.V {
			x.V[k] = 99
		}
		p.Vectors[i] = api.Vec{Name: "wiped"}
	}
	for i := range p.Fields {
		p.Fields[i] = api.Field{Name: "wiped"}
	}
}

func TestNothingIsShared(t *testing.T) { // R4
	for _, c := range []api.Config{config(0, 0), config(1, 0), config(2, 2)} {
		d := disk.New()
		given := config(c.Flush, c.Compact)
		s := opened(t, d, given)
		clear(given.Schema.Vectors)
		clear(given.Schema.Fields)
		for n := range 6 {
			l := []api.Point{at(1, n), at(2, n)}
			l[1].Vectors[0].V = l[0].Vectors[0].V // two lists that are one
			l[1].Fields = l[0].Fields
			is(t, s.Upsert(l), api.OK)
			has(t, s, n+1, at(1, n), at(2, n))
			wipe(l[0])
			wipe(l[1])
			has(t, s, n+1, at(1, n), at(2, n))
			p, _ := s.Get(1)
			wipe(p)
			told := s.Points()
			wipe(told[0])
			if !payload.Same(told[1], at(2, n)) {
				t.Fatalf("%v", told[1])
			}
			wipe(told[1])
			has(t, s, n+1, at(1, n), at(2, n))
		}
		s = opened(t, d, c)
		for _, p := range s.Points() {
			wipe(p)
		}
		has(t, s, 6, at(1, 5), at(2, 5))
		is(t, s.Flush(), api.OK)
		is(t, s.Compact(), api.OK)
		has(t, opened(t, d, c), 6, at(1, 5), at(2, 5))
	}
}

func TestWhatIsHandedInStays(t *testing.T) { // R4: behind the lists' ends, too
	c := config(1, 2)
	c.Schema.Vectors = append(c.Schema.Vectors, api.VecSpec{Name: "z"})[:2]
	c.Schema.Fields = append(c.Schema.Fields, api.FieldSpec{Name: "z"})[:3]
	l := []api.Point{at(4, 1), at(2, 2), at(4, 3), at(9, 9)}[:3]
	l[0].Vectors = append(l[0].Vectors, api.Vec{Name: "z"})[:2]
	l[0].Vectors[0].V = append(l[0].Vectors[0].V, 5)[:2]
	s := opened(t, disk.New(), c)
	is(t, s.Upsert(l), api.OK)
	is(t, s.Upsert(l[:2]), api.OK)
	if !slices.EqualFunc(l[:4], []api.Point{at(4, 1), at(2, 2), at(4, 3), at(9, 9)}, payload.Same) || l[0].Vectors[:3][2].Name != "z" || l[0].Vectors[0].V[:3][2] != 5 {
		t.Fatalf("%v", l[:4])
	}
	if want := config(1, 2); !slices.Equal(c.Schema.Vectors, want.Schema.Vectors) || !slices.Equal(c.Schema.Fields, want.Schema.Fields) || c.Schema.Vectors[:3][2].Name != "z" || c.Schema.Fields[:4][3].Name != "z" {
		t.Fatalf("%v", c)
	}
}
