package segment

import (
	"math"
	"math/rand/v2"
	"slices"
	"testing"

	"lodestar/api"
	"lodestar/payload"
)

// The face of the chapter: each call with its exact signature.
var (
	_ func([]api.Version) (api.Segment, api.Errno)  = Build
	_ func(api.Segment) (string, api.Errno)         = Encode
	_ func(string) (api.Segment, api.Errno)         = Decode
	_ func(api.Segment, int) (api.Version, bool)    = Find
	_ func(l []api.Segment, whole bool) api.Segment = Merge
)

// at is a version of id that stands, told apart from others by n.
func at(seq, id, n int) api.Version {
	return api.Version{Seq: seq, Point: api.Point{Id: id, Vectors: []api.Vec{{Name: "v", V: []int{n, -n}}}, Fields: []api.Field{{Name: "n", Value: api.Value{Kind: api.KindInt, N: n}}}}}
}

// gone is a version of id that is deleted.
func gone(seq, id int) api.Version {
	return api.Version{Seq: seq, Gone: true, Point: api.Point{Id: id}}
}

// of is the segment of these versions, whether it may be or not.
func of(l ...api.Version) api.Segment { return api.Segment{Versions: l} }

// sameVersion tells whether all is the same in both.
func sameVersion(a, b api.Version) bool {
	return a.Seq == b.Seq && a.Gone == b.Gone && payload.Same(a.Point, b.Point)
}

// sameSegment tells whether all is the same in both.
func sameSegment(a, b api.Segment) bool {
	return slices.EqualFunc(a.Versions, b.Versions, sameVersion)
}

// builds wants of Build the segment of these versions.
func builds(t *testing.T, l []api.Version, want ...api.Version) {
	t.Helper()
	if s, e := Build(l); !sameSegment(s, of(want...)) || e != api.OK {
		t.Fatalf("Build(%v) = %v, %d, want %v", l, s, e, want)
	}
}

// buildsNone wants that Build refuses the versions.
func buildsNone(t *testing.T, l ...api.Version) {
	t.Helper()
	if s, e := Build(l); s.Versions != nil || e != api.ErrSegment {
		t.Fatalf("Build(%v) = %v, %d", l, s, e)
	}
}

// merges wants of Merge the segment of these versions.
func merges(t *testing.T, whole bool, l []api.Segment, want ...api.Version) {
	t.Helper()
	if s := Merge(l, whole); !sameSegment(s, of(want...)) {
		t.Fatalf("Merge(%v, %v) = %v, want %v", l, whole, s, want)
	}
}

// badVersions are such as may not be, each for one thing.
func badVersions() []api.Version {
	var l []api.Version
	for _, n := range []int{math.MinInt, -1, 0, api.MaxId + 1, 1 << 53, math.MaxInt} { // no Seqs, and no Ids
		l = append(l, at(n, 3, 7), gone(n, 3), at(3, n, 7), gone(3, n))
	}
	p := at(3, 3, 7).Point
	for _, x := range []api.Point{ // points that may not be
		{}, {Id: 3}, {Id: 3, Fields: p.Fields}, {Id: 3, Vectors: []api.Vec{{Name: "v"}}}, {Id: 3, Vectors: []api.Vec{{V: []int{1}}}},
		{Id: 3, Vectors: []api.Vec{p.Vectors[0], p.Vectors[0]}}, {Id: 3, Vectors: []api.Vec{{Name: "v", V: []int{32768}}}}, {Id: 3, Vectors: []api.Vec{{Name: "v", V: make([]int, 65)}}},
		{Id: 3, Vectors: p.Vectors, Fields: []api.Field{{Name: "f"}}}, {Id: 3, Vectors: p.Vectors, Fields: []api.Field{{Name: "f", Value: api.Value{Kind: api.KindBool, N: 2}}}},
	} {
		l = append(l, api.Version{Seq: 3, Point: x})
	}
	for _, x := range []api.Point{{}, p, {Id: 3, Vectors: p.Vectors}, {Id: 3, Fields: p.Fields}, {Id: 3, Vectors: []api.Vec{{}}}, {Id: 3, Fields: []api.Field{{}}}} { // Gone, with something else than an Id
		l = append(l, api.Version{Seq: 3, Gone: true, Point: x})
	}
	return append(l, api.Version{}, api.Version{Gone: true})
}

func TestBuildFixed(t *testing.T) { // 10.1
	builds(t, []api.Version{at(1, 2, 1), at(2, 1, 2), gone(3, 2)}, at(2, 1, 2), gone(3, 2)) // the chapter's example
	builds(t, nil)
	builds(t, []api.Version{})
	builds(t, []api.Version{at(1, 1, 5)}, at(1, 1, 5))
	builds(t, []api.Version{gone(1, 1)}, gone(1, 1))
	builds(t, []api.Version{gone(1, 2), at(3, 2, 9), gone(2, 2)}, at(3, 2, 9))                                 // deleted, and then there again
	builds(t, []api.Version{at(3, 2, 9), at(1, 2, 7), at(2, 2, 8)}, at(3, 2, 9))                               // what is newest stands first
	builds(t, []api.Version{at(1, 9, 1), at(1, 2, 2), gone(1, 5)}, at(1, 2, 2), gone(1, 5), at(1, 9, 1))       // one Seq of several Ids
	builds(t, []api.Version{at(9, 1, 1), at(1, 9, 2)}, at(9, 1, 1), at(1, 9, 2))                               // Seqs need not rise with Ids
	builds(t, []api.Version{at(10, 10, 1), at(9, 9, 2), at(2, 2, 3)}, at(2, 2, 3), at(9, 9, 2), at(10, 10, 1)) // by numbers, not by digits
}

func TestBuildAtEdges(t *testing.T) { // 10.1
	for _, id := range []int{1, 2, 1 << 32, api.MaxId - 1, api.MaxId} {
		for _, seq := range []int{1, 2, 1 << 32, api.MaxId - 1, api.MaxId} {
			builds(t, []api.Version{at(seq, id, 4)}, at(seq, id, 4))
			builds(t, []api.Version{gone(seq, id)}, gone(seq, id))
		}
		builds(t, []api.Version{at(api.MaxId, id, 4), at(1, id, 5)}, at(api.MaxId, id, 4))
	}
	builds(t, []api.Version{at(1, api.MaxId, 1), at(2, 1, 2)}, at(2, 1, 2), at(1, api.MaxId, 1))
}

func TestBuildRefuses(t *testing.T) { // 10.1
	for _, v := range badVersions() {
		buildsNone(t, v)
		buildsNone(t, at(1, 1, 1), v)
		buildsNone(t, at(1, 1, 1), v, gone(1, 2))
		buildsNone(t, v, at(9, 3, 1)) // an older one of an Id, too
		buildsNone(t, at(9, 3, 1), v)
	}
}

func TestBuildRefusesTheSameTwice(t *testing.T) { // 10.1
	buildsNone(t, at(1, 2, 3), at(1, 2, 3)) // though they are the same
	buildsNone(t, at(1, 2, 3), at(1, 2, 4))
	buildsNone(t, at(1, 2, 3), gone(1, 2))
	buildsNone(t, gone(1, 2), gone(1, 2))
	buildsNone(t, at(1, 2, 3), at(5, 1, 1), gone(6, 3), at(1, 2, 4))             // apart from each other
	buildsNone(t, at(1, 2, 3), at(5, 2, 1), at(1, 2, 4))                         // neither is the newest
	buildsNone(t, at(7, 2, 3), at(5, 2, 1), at(7, 2, 4))                         // both are
	buildsNone(t, at(api.MaxId, 2, 3), at(5, 2, 1), at(api.MaxId, 2, 4))         // at the limit
	buildsNone(t, at(1, api.MaxId, 3), at(5, 2, 1), at(1, api.MaxId, 4))         // likewise
	builds(t, []api.Version{at(1, 2, 3), at(2, 1, 4)}, at(2, 1, 4), at(1, 2, 3)) // the other way round they are two
}

func TestFindFixed(t *testing.T) { // 10.3
	s := of(at(4, 1, 1), gone(2, 3), at(9, api.MaxId, 3))
	for _, v := range s.Versions {
		if got, ok := Find(s, v.Point.Id); !sameVersion(got, v) || !ok {
			t.Errorf("Find of %d: %v, %v", v.Point.Id, got, ok)
		}
	}
	for _, id := range []int{math.MinInt, -1, 0, 2, 4, 9, api.MaxId - 1, api.MaxId + 1, math.MaxInt} {
		for _, s := range []api.Segment{s, {}, of()} {
			if got, ok := Find(s, id); !sameVersion(got, api.Version{}) || ok {
				t.Errorf("Find of %d: %v, %v", id, got, ok)
			}
		}
	}
}

func TestFindTheFirst(t *testing.T) { // 10.3: in whatever segment
	s := of(at(1, 7, 1), gone(5, 7), at(1, 2, 2), api.Version{Gone: true, Point: at(0, -4, 3).Point}, at(9, 2, 4), api.Version{}, at(1, 0, 5), at(3, math.MaxInt, 6))
	for id, place := range map[int]int{7: 0, 2: 2, -4: 3, 0: 5, math.MaxInt: 7} {
		if got, ok := Find(s, id); !sameVersion(got, s.Versions[place]) || !ok {
			t.Errorf("Find of %d: %v, %v", id, got, ok)
		}
	}
	if got, ok := Find(api.Segment{Versions: s.Versions[:2]}, 2); ok { // it stands behind the list's end
		t.Errorf("Find of 2: %v", got)
	}
}

func TestMergeFixed(t *testing.T) { // 10.4
	l := []api.Segment{of(at(1, 2, 1)), of(gone(3, 2), at(4, 5, 2))}
	merges(t, false, l, gone(3, 2), at(4, 5, 2)) // the chapter's example
	merges(t, true, l, at(4, 5, 2))
	for _, whole := range []bool{false, true} {
		merges(t, whole, nil)
		merges(t, whole, []api.Segment{{}, of()})
		merges(t, whole, []api.Segment{of(at(1, 2, 1))}, at(1, 2, 1))
		merges(t, whole, []api.Segment{of(at(1, 9, 1)), {}, of(at(2, 3, 2), at(3, 10, 3))}, at(2, 3, 2), at(1, 9, 1), at(3, 10, 3))
		merges(t, whole, []api.Segment{of(at(5, 2, 1)), of(at(4, 2, 2))}, at(5, 2, 1)) // the newest is not in the last
		merges(t, whole, []api.Segment{of(at(5, 2, 1)), of(gone(4, 2))}, at(5, 2, 1))  // what is there again stays
		merges(t, whole, []api.Segment{of(gone(4, 2)), of(at(5, 2, 1))}, at(5, 2, 1))  // in any order
		merges(t, whole, []api.Segment{of(at(1, 2, 1), at(9, 3, 2)), of(at(2, 2, 3))}, at(2, 2, 3), at(9, 3, 2))
	}
}

func TestMergeWhole(t *testing.T) { // 10.4: what is gone is away, and so is all that is older
	l := []api.Segment{of(at(1, 1, 1), at(2, 2, 2), at(3, 3, 3)), of(gone(4, 1), gone(5, 9)), of(gone(6, 3), gone(7, 4), at(8, 5, 4))}
	merges(t, true, l, at(2, 2, 2), at(8, 5, 4))
	merges(t, false, l, gone(4, 1), at(2, 2, 2), gone(6, 3), gone(7, 4), at(8, 5, 4), gone(5, 9))
	merges(t, true, []api.Segment{of(gone(1, 1)), of(gone(2, 2))})
	merges(t, true, []api.Segment{of(gone(9, 2)), of(at(8, 2, 1)), of(at(7, 2, 2))})
}

func TestMergeOfTheSameSeq(t *testing.T) { // 10.4: of the last segment, in it the last
	merges(t, false, []api.Segment{of(at(5, 2, 1)), of(at(5, 2, 2))}, at(5, 2, 2))
	merges(t, false, []api.Segment{of(at(5, 2, 1), at(5, 2, 2), at(5, 2, 3))}, at(5, 2, 3))
	merges(t, false, []api.Segment{of(at(5, 2, 1), at(5, 2, 2)), of(at(5, 2, 3), at(5, 2, 4), at(4, 2, 5))}, at(5, 2, 4))
	merges(t, false, []api.Segment{of(at(5, 2, 1)), of(at(4, 2, 2)), of(at(5, 2, 3)), of(at(1, 2, 4))}, at(5, 2, 3))
	merges(t, true, []api.Segment{of(gone(5, 2)), of(at(5, 2, 3))}, at(5, 2, 3))
	merges(t, true, []api.Segment{of(at(5, 2, 3)), of(gone(5, 2))})
	var many []api.Segment
	for n := range 100 {
		many = append(many, of(at(5, 2, n), at(5, 1, n), at(5, 2, n+1000)))
	}
	merges(t, true, many, at(5, 1, 99), at(5, 2, 1099))
}

func TestMergeOfAnySegments(t *testing.T) { // 10.4, R1: their Ids need not rise, nor may their versions be
	odd := api.Version{Seq: -3, Gone: true, Point: at(0, -4, 3).Point}
	l := []api.Segment{of(at(2, 9, 1), odd, at(1, 9, 2), at(3, 0, 3)), of(at(math.MaxInt, 4, 4), at(math.MinInt, 0, 5), at(math.MinInt, 4, 6), api.Version{}, at(-9, math.MinInt, 7), at(0, math.MaxInt, 8))}
	merges(t, false, l, at(-9, math.MinInt, 7), odd, at(3, 0, 3), at(math.MaxInt, 4, 4), at(2, 9, 1), at(0, math.MaxInt, 8))
	merges(t, true, l, at(-9, math.MinInt, 7), at(3, 0, 3), at(math.MaxInt, 4, 4), at(2, 9, 1), at(0, math.MaxInt, 8))
}

// modelNewest is what of all versions is the newest of each Id, by maps; later ones win where they are as new.
func modelNewest(l []api.Version) []api.Version {
	best := map[int]api.Version{}
	for _, v := range l {
		if old, ok := best[v.Point.Id]; !ok || v.Seq >= old.Seq {
			best[v.Point.Id] = v
		}
	}
	var kept []api.Version
	for _, v := range best {
		kept = append(kept, v)
	}
	slices.SortFunc(kept, func(a, b api.Version) int {
		if a.Point.Id < b.Point.Id {
			return -1
		}
		return 1
	})
	return kept
}

// modelWhole is what of l is not gone.
func modelWhole(l []api.Version) []api.Version {
	var kept []api.Version
	for _, v := range l {
		if !v.Gone {
			kept = append(kept, v)
		}
	}
	return kept
}

// hasTwice tells whether two of l have the same Id and Seq.
func hasTwice(l []api.Version) bool {
	seen := map[[2]int]bool{}
	for _, v := range l {
		if seen[[2]int{v.Point.Id, v.Seq}] {
			return true
		}
		seen[[2]int{v.Point.Id, v.Seq}] = true
	}
	return false
}

// drawnVersions draws some, of few Ids and with few Seqs, in any order.
func drawnVersions(d *rand.Rand, count, spanOfIds, spanOfSeqs int) []api.Version {
	var l []api.Version
	for n := range count {
		id, seq := 1+d.IntN(spanOfIds), 1+d.IntN(spanOfSeqs)
		if d.IntN(3) == 0 {
			l = append(l, gone(seq, id))
		} else {
			l = append(l, at(seq, id, n))
		}
	}
	return l
}

// drawnSegment draws one that may be.
func drawnSegment(d *rand.Rand, count, spanOfIds, spanOfSeqs int) api.Segment {
	return of(modelNewest(drawnVersions(d, count, spanOfIds, spanOfSeqs))...)
}

func TestBuildDrawn(t *testing.T) { // 10.1
	built, refused := 0, 0
	for seed := range uint64(6000) {
		d := rand.New(rand.NewPCG(seed, 101))
		l := drawnVersions(d, d.IntN(40), 1+d.IntN(1<<d.IntN(8)), 1+d.IntN(1<<d.IntN(12)))
		if hasTwice(l) {
			buildsNone(t, l...)
			refused++
			continue
		}
		want := modelNewest(l)
		builds(t, l, want...)
		built++
		if len(l) > 0 {
			l = slices.Insert(l, d.IntN(len(l)+1), badVersions()[d.IntN(len(badVersions()))])
			buildsNone(t, l...)
		}
	}
	if built < 1000 || refused < 1000 {
		t.Errorf("%d were built, %d refused", built, refused)
	}
}

func TestMergeDrawn(t *testing.T) { // 10.4: of segments that may be, and others
	for seed := range uint64(6000) {
		d := rand.New(rand.NewPCG(seed, 104))
		var segments []api.Segment
		var all []api.Version
		spanOfIds, spanOfSeqs := 1+d.IntN(1<<d.IntN(8)), 1+d.IntN(1<<d.IntN(8))
		for range d.IntN(7) {
			l := drawnVersions(d, d.IntN(30), spanOfIds, spanOfSeqs)
			if seed%2 == 0 {
				l = modelNewest(l)
			}
			segments, all = append(segments, of(l...)), append(all, l...)
		}
		want := modelNewest(all)
		merges(t, false, segments, want...)
		merges(t, true, segments, modelWhole(want)...)
	}
}

// drawnSegments draws some that may be, of few Ids.
func drawnSegments(d *rand.Rand) []api.Segment {
	var l []api.Segment
	for range 1 + d.IntN(6) {
		l = append(l, drawnSegment(d, d.IntN(20), 12, 1+d.IntN(40)))
	}
	return l
}

func TestMergedMayBe(t *testing.T) { // 10.5
	for seed := range uint64(1000) {
		l := drawnSegments(rand.New(rand.NewPCG(seed, 105)))
		for _, whole := range []bool{false, true} {
			if _, e := Encode(Merge(l, whole)); e != api.OK {
				t.Fatalf("seed %d: what is merged may not be", seed)
			}
		}
	}
}

func TestMergedBitByBit(t *testing.T) { // 10.5
	for seed := range uint64(2000) {
		d := rand.New(rand.NewPCG(seed, 106))
		l := drawnSegments(d)
		once, whole := Merge(l, false), Merge(l, true)
		for len(l) > 1 {
			from := d.IntN(len(l))
			to := from + 1 + d.IntN(len(l)-from)
			l = slices.Concat(l[:from], []api.Segment{Merge(l[from:to], false)}, l[to:])
			if !sameSegment(Merge(l, false), once) || !sameSegment(Merge(l, true), whole) {
				t.Fatalf("seed %d: merged bit by bit it is another segment", seed)
			}
		}
	}
}

func TestFindInWhatIsMerged(t *testing.T) { // 10.5
	for seed := range uint64(1000) {
		l := drawnSegments(rand.New(rand.NewPCG(seed, 107)))
		merged := Merge(l, false)
		for id := range 14 {
			var told []api.Version
			for _, s := range l {
				if v, ok := Find(s, id); ok {
					told = append(told, v)
				}
			}
			want := modelNewest(told)
			got, ok := Find(merged, id)
			if ok != (len(want) == 1) || ok && !sameVersion(got, want[0]) {
				t.Fatalf("seed %d: Find of %d: %v, %v, want %v", seed, id, got, ok, want)
			}
		}
	}
}

// padded is s in other memory, with things behind its lists' ends.
func padded(s api.Segment) api.Segment {
	l := append(slices.Clone(s.Versions), at(99, 99, 99), at(98, 98, 98))[:len(s.Versions)]
	for i, v := range l {
		p := &l[i].Point
		p.Vectors = append(slices.Clone(v.Point.Vectors), api.Vec{Name: "behind"}, api.Vec{Name: "behind"})[:len(p.Vectors)]
		for k, x := range p.Vectors {
			p.Vectors[k].V = append(slices.Clone(x.V), 97, 96)[:len(x.V)]
		}
		p.Fields = append(slices.Clone(v.Point.Fields), api.Field{Name: "behind"}, api.Field{Name: "behind"})[:len(p.Fields)]
	}
	return api.Segment{Versions: l}
}

// frozen is s in other memory, with all that lies behind its lists' ends laid into them.
func frozen(s api.Segment) api.Segment {
	l := slices.Clone(s.Versions[:cap(s.Versions)])
	for i := range l {
		p := &l[i].Point
		p.Vectors = slices.Clone(p.Vectors[:cap(p.Vectors)])
		for k, x := range p.Vectors {
			p.Vectors[k].V = slices.Clone(x.V[:cap(x.V)])
		}
		p.Fields = slices.Clone(p.Fields[:cap(p.Fields)])
	}
	return api.Segment{Versions: l}
}

// spoil lays another thing everywhere in the lists of s, behind their ends, too.
func spoil(s api.Segment) {
	l := s.Versions[:cap(s.Versions)]
	for i := range l {
		p := l[i].Point
		for _, x := range p.Vectors[:cap(p.Vectors)] {
			for k := range x.V[:cap(x.V)] {
				x.V[:cap(x.V)][k] = 77
			}
		}
		for k := range p.Vectors[:cap(p.Vectors)] {
			p.Vectors[:cap(p.Vectors)][k] = api.Vec{Name: "spoilt"}
		}
		for k := range p.Fields[:cap(p.Fields)] {
			p.Fields[:cap(p.Fields)][k] = api.Field{Name: "spoilt"}
		}
		l[i] = gone(77, 77)
	}
}

func TestNothingIsChangedOrShared(t *testing.T) { // R4, R5
	one := at(3, 5, 1).Point
	shared := []api.Version{{Seq: 3, Point: one}, {Seq: 1, Point: api.Point{Id: 2, Vectors: one.Vectors, Fields: one.Fields}}, gone(7, 4), {Seq: 2, Point: api.Point{Id: 8, Vectors: []api.Vec{{Name: "a", V: one.Vectors[0].V}, {Name: "b", V: one.Vectors[0].V}}}}}
	s := padded(of(shared...))
	for i := range s.Versions[3].Point.Vectors { // two lists that are one
		s.Versions[3].Point.Vectors[i].V = s.Versions[0].Point.Vectors[0].V
	}
	b, e := Encode(drawnSegment(rand.New(rand.NewPCG(1, 1)), 9, 40, 40))
	if e != api.OK {
		t.Fatal(e)
	}
	calls := []func() api.Segment{
		func() api.Segment { s, _ := Build(s.Versions); return s },
		func() api.Segment { return Merge([]api.Segment{s, s}, false) },
		func() api.Segment { return Merge([]api.Segment{s}, true) },
		func() api.Segment { return Merge([]api.Segment{{}, s, of(gone(9, 2))}, true) },
		func() api.Segment { v, _ := Find(s, 5); return of(v) },
		func() api.Segment { v, _ := Find(s, 8); return of(v) },
		func() api.Segment { s, _ := Decode(b); return s },
		func() api.Segment { Encode(s); return of() },
	}
	before := frozen(s)
	for i, call := range calls {
		first, second := call(), call()
		if !sameSegment(before, frozen(s)) {
			t.Fatalf("call %d changed what it was given", i)
		}
		want := frozen(api.Segment{Versions: slices.Clip(second.Versions)})
		spoil(first)
		if !sameSegment(before, frozen(s)) || !sameSegment(frozen(api.Segment{Versions: slices.Clip(second.Versions)}), want) {
			t.Fatalf("call %d answers memory of others", i)
		}
		for k, v := range second.Versions { // no list of an answer is another one of it
			spoil(api.Segment{Versions: second.Versions[k : k+1 : k+1]})
			for m := k + 1; m < len(second.Versions); m++ {
				if !sameVersion(frozen(of(second.Versions[m])).Versions[0], want.Versions[m]) {
					t.Fatalf("call %d: %v shares memory with another of its answer", i, v)
				}
			}
		}
	}
	for _, call := range calls { // within one version
		for _, v := range call().Versions {
			if l := v.Point.Vectors; len(l) == 2 {
				was := l[1].V[0]
				l[0].V[0]++
				if l[1].V[0] != was {
					t.Fatalf("two vectors of %v share memory", v)
				}
			}
		}
	}
}
