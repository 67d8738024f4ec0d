package store

import (
	"math"
	"slices"
	"testing"

	"lodestar/api"
	"lodestar/disk"
	"lodestar/payload"
)

// dies lets all steps of the disk from that place on (1: the next) go wrong: of the first, if it is a Write, n bytes are laid.
func dies(t *testing.T, d *disk.Disk, place, n int) {
	t.Helper()
	var l []api.DiskFault
	for i := range 60 {
		l = append(l, api.DiskFault{Step: d.Steps() + place + i, Kind: api.FaultFail})
	}
	l[0].Kind, l[0].N = api.FaultShort, n
	is(t, d.Plan(l), api.OK)
}

// act is what is done to a store, one thing behind the other.
type act func(*Store) api.Errno

func writes(l ...api.Point) act { return func(s *Store) api.Errno { return s.Upsert(l) } }
func deletes(id int) act        { return func(s *Store) api.Errno { return s.Delete(id) } }

// acts is a story of a store: writes, flushes and compactions.
func acts() []act {
	return []act{
		writes(at(1, 1), at(2, 2)),
		deletes(1),
		(*Store).Flush,
		writes(at(1, 3), at(1, 4), at(3, 5)),
		deletes(2),
		(*Store).Flush,
		writes(at(2, 6)),
		(*Store).Compact,
		deletes(3),
		writes(at(4, 7)),
	}
}

// states answers the points behind the first so many writes of the story.
func states(t *testing.T) []map[int]api.Point {
	t.Helper()
	s := opened(t, disk.New(), config(0, 0))
	l := []map[int]api.Point{{}}
	for _, a := range acts() {
		was := s.Seq()
		is(t, a(s), api.OK)
		if s.Seq() == was {
			continue
		}
		state := map[int]api.Point{}
		for _, p := range s.Points() {
			state[p.Id] = p
		}
		l = append(l, state)
	}
	return l
}

// begun answers a disk on which a store was opened, and it.
func begun(t *testing.T, c api.Config) (*disk.Disk, *Store) {
	t.Helper()
	d := disk.New()
	return d, opened(t, d, c)
}

// lived answers how many writes were answered OK ahead of the first act that was not.
func lived(s *Store) int {
	for _, a := range acts() {
		if a(s) != api.OK {
			break
		}
	}
	return s.Seq()
}

// kept wants that the store has the state behind so many writes, or one more.
func kept(t *testing.T, s *Store, all []map[int]api.Point, answered int) {
	t.Helper()
	n := s.Seq()
	if n != answered && n != answered+1 || n >= len(all) {
		t.Fatalf("%d writes, %d were answered", n, answered)
	}
	if got, want := s.Points(), rising(all[n]); !slices.EqualFunc(got, want, payload.Same) {
		t.Fatalf("%v, want %v", got, want)
	}
}

// stepsOf answers how many steps the story makes.
func stepsOf(t *testing.T, c api.Config) int {
	t.Helper()
	d, s := begun(t, c)
	was := d.Steps()
	lived(s)
	return d.Steps() - was
}

// crashes are some that differ in how many changes of names they leave, and how many bytes.
func crashes() []api.Crash {
	var l []api.Crash
	for names := range 6 {
		for _, bytes := range [][]int{{0}, {math.MaxInt}, {7, 0, math.MaxInt}} {
			l = append(l, api.Crash{Names: names, Bytes: bytes})
		}
	}
	return l
}

func TestCrashAtEachMoment(t *testing.T) { // 12.7, T5
	t.Parallel()
	all := states(t)
	for _, c := range []api.Config{config(0, 0), config(1, 0), config(1, 2), config(2, 2)} {
		count := stepsOf(t, c)
		if count < 40 {
			t.Fatalf("%d steps", count)
		}
		for place := range count {
			for _, n := range []int{0, 11, math.MaxInt} {
				for _, crash := range crashes() {
					d, s := begun(t, c)
					dies(t, d, 1+place, n)
					answered := lived(s)
					d.Crash(crash)
					s = opened(t, d, c)
					kept(t, s, all, answered)
					again := s.Seq()
					d.Crash(crash)
					s = opened(t, d, c)
					kept(t, s, all, again)
					if s.Seq() != again {
						t.Fatalf("%d writes, %d were recovered", s.Seq(), again)
					}
				}
			}
		}
	}
}

func TestCrashWithinARecovery(t *testing.T) { // 12.7, T5
	t.Parallel()
	all := states(t)
	c := config(2, 2)
	for place := range stepsOf(t, c) {
		for i, crash := range crashes() {
			for within := 1; within <= 6; within++ {
				d, s := begun(t, c)
				dies(t, d, 1+place, 20)
				answered := lived(s)
				d.Crash(crash)
				dies(t, d, within, 0)
				if s, e := Open(d, c); e == api.OK { // all done ahead of it
					kept(t, s, all, answered)
				}
				d.Crash(crashes()[(i+place)%len(crashes())])
				kept(t, opened(t, d, c), all, answered)
			}
		}
	}
}

func TestRefusedAtEachStep(t *testing.T) { // 12.2 to 12.5, 12.7: what goes on behind one fault, or two
	t.Parallel()
	all := states(t)
	want := rising(all[len(all)-1])
	for _, c := range []api.Config{config(0, 0), config(1, 2), config(2, 2)} {
		for first := range stepsOf(t, c) {
			for second := range 8 {
				d, s := begun(t, c)
				l := []api.DiskFault{{Step: d.Steps() + 1 + first, Kind: api.FaultShort, N: 30}, {Step: d.Steps() + 2 + first + second, Kind: api.FaultFail}}
				is(t, d.Plan(l), api.OK)
				// Each act is done again till it is answered OK, so that all of the story is.
				for _, a := range acts() {
					for tries := 0; a(s) != api.OK; tries++ {
						if tries == 3 {
							t.Fatal("refused again and again")
						}
					}
				}
				has(t, s, len(all)-1, want...)
				d.Crash(api.Crash{})
				has(t, opened(t, d, c), len(all)-1, want...)
			}
		}
	}
}
