package store

import (
	"encoding/binary"
	"fmt"
	"maps"
	"math/rand/v2"
	"slices"
	"testing"

	"lodestar/api"
	"lodestar/disk"
	"lodestar/manifest"
	"lodestar/payload"
	"lodestar/segment"
	"lodestar/wal"
)

// stop is the error with which the words of the chapter end a call.
type stop api.Errno

// must ends the call, if this is an error.
func must(e api.Errno) {
	if e != api.OK {
		panic(stop(e))
	}
}

// answer does what a call says, and answers the error with which it ended.
func answer(call func()) (e api.Errno) {
	defer func() {
		switch r := recover().(type) {
		case nil:
		case stop:
			e = api.Errno(r)
		default:
			panic(r)
		}
	}()
	call()
	return api.OK
}

// modelWrite is a write: an upsert of points, or, without any, a delete of id.
type modelWrite struct {
	points []api.Point
	id     int
}

// modelBody reads a write's body.
func modelBody(s string) (modelWrite, bool) {
	switch {
	case len(s) == 9 && s[0] == 'D':
		id := binary.LittleEndian.Uint64([]byte(s[1:]))
		return modelWrite{id: int(id)}, id >= 1 && id <= api.MaxId
	case len(s) >= 5 && s[0] == 'U':
		var w modelWrite
		rest := s[5:]
		for rest != "" {
			p, n, e := payload.Decode(rest)
			if e != api.OK {
				return modelWrite{}, false
			}
			w.points = append(w.points, p)
			rest = rest[n:]
		}
		count := binary.LittleEndian.Uint32([]byte(s[1:]))
		return w, uint64(count) == uint64(len(w.points)) && count >= 1 && count <= api.MaxPoints
	}
	return modelWrite{}, false
}

// model does what the chapter says, word by word, with a disk of its own. It has no log but the disk's bytes, and keeps no versions but by maps.
type model struct {
	disk      *disk.Disk
	config    api.Config
	m         api.Manifest
	segments  []map[int]api.Version
	records   []api.Record // the log's good ones
	namesOpen bool
	logBroken bool
	points    map[int]api.Point
	seq       int
}

func (x *model) hasFile(name string) bool { return slices.Contains(x.disk.Names(), name) }

// goodBytes are those of the good records.
func (x *model) goodBytes() int {
	n := 0
	for _, r := range x.records {
		f, _ := wal.Frame(r)
		n += len(f)
	}
	return n
}

// apply lets the state be what the write makes of it.
func (x *model) apply(w modelWrite) {
	if w.points == nil {
		delete(x.points, w.id)
	}
	for _, p := range w.points {
		x.points[p.Id] = p
	}
	x.seq++
}

// openLog does what chapter 9 says of wal.Open.
func (x *model) openLog(name string) []api.Record {
	if !x.hasFile(name) {
		_, e := x.disk.Write(name, "")
		must(e)
		must(x.disk.SyncNames())
	}
	s, _ := x.disk.Read(name)
	records, size, e := wal.Scan(s)
	if e == api.ErrWal {
		must(e)
	}
	if e == api.ErrTorn {
		must(x.disk.Cut(name, size))
	}
	must(x.disk.Sync(name))
	return records
}

func (x *model) beginLogAnew(name string) {
	if x.hasFile(name) {
		must(x.disk.Remove(name))
	}
	x.openLog(name)
}

func (x *model) makeAnew(name, bytes string) {
	if x.hasFile(name) {
		must(x.disk.Remove(name))
	}
	_, e := x.disk.Write(name, bytes)
	must(e)
	must(x.disk.Sync(name))
}

// segmentBytes are those of the versions, by rising ids.
func segmentBytes(l map[int]api.Version) string {
	var s api.Segment
	for _, id := range slices.Sorted(maps.Keys(l)) {
		s.Versions = append(s.Versions, l[id])
	}
	b, e := segment.Encode(s)
	must(e)
	return b
}

func modelOpen(d *disk.Disk, c api.Config) (*model, api.Errno) {
	x := &model{disk: d, config: c, points: map[int]api.Point{}}
	e := answer(func() {
		m, ok, e := manifest.Load(d)
		must(e)
		if !ok {
			x.beginLogAnew("l1")
			x.m = api.Manifest{Log: "l1", Next: 2}
			must(manifest.Store(d, x.m))
		} else {
			x.m = m
			x.read()
		}
		for _, name := range d.Names() {
			if name != "manifest" && name != x.m.Log && !slices.Contains(x.m.Segments, name) {
				must(d.Remove(name))
			}
		}
		must(d.SyncNames())
	})
	return x, e
}

// read reads what the manifest names.
func (x *model) read() {
	var read []api.Point
	for _, name := range x.m.Segments {
		b, e := x.disk.Read(name)
		must(e)
		s, e := segment.Decode(b)
		must(e)
		l := map[int]api.Version{}
		for _, v := range s.Versions {
			l[v.Point.Id] = v
			if v.Gone {
				delete(x.points, v.Point.Id)
			} else {
				x.points[v.Point.Id] = v.Point
				read = append(read, v.Point)
			}
		}
		x.segments = append(x.segments, l)
	}
	x.seq = x.m.Seq
	x.records = x.openLog(x.m.Log)
	if len(x.records) > 0 && x.records[0].Seq != x.m.Seq+1 {
		must(api.ErrWal)
	}
	for _, r := range x.records {
		w, ok := modelBody(r.Body)
		if !ok {
			must(api.ErrWal)
		}
		x.apply(w)
		read = append(read, w.points...)
	}
	for _, p := range read {
		if payload.Check(x.config.Schema, p) != api.OK {
			must(api.ErrSchema)
		}
	}
}

func (x *model) mend() {
	if x.namesOpen {
		must(x.disk.SyncNames())
		x.namesOpen = false
	}
	if x.logBroken {
		must(x.disk.Cut(x.m.Log, x.goodBytes()))
		x.openLog(x.m.Log)
		x.logBroken = false
	}
}

func (x *model) upsert(l []api.Point) api.Errno {
	return answer(func() {
		if len(l) == 0 || len(l) > api.MaxPoints {
			must(api.ErrPoint)
		}
		for _, p := range l {
			must(payload.Check(x.config.Schema, p))
		}
		x.write(bodyOf(l...))
	})
}

func (x *model) delete(id int) api.Errno {
	return answer(func() {
		if _, ok := x.points[id]; !ok {
			must(api.ErrNone)
		}
		x.write(goneBody(uint64(id)))
	})
}

func (x *model) write(body string) {
	x.mend()
	r := api.Record{Seq: x.seq + 1, Body: body}
	f, e := wal.Frame(r)
	must(e)
	x.logBroken = true
	_, e = x.disk.Write(x.m.Log, f)
	must(e)
	must(x.disk.Sync(x.m.Log))
	x.logBroken = false
	x.records = append(x.records, r)
	w, _ := modelBody(body)
	x.apply(w)
	if x.config.Flush > 0 && len(x.records) >= x.config.Flush {
		if x.flush() == api.OK && x.config.Compact > 0 && len(x.segments) >= x.config.Compact {
			x.compact()
		}
	}
}

// inForce lets then be, if m is what the disk tells behind manifest.Store of it, and ends the call, if that was refused.
func (x *model) inForce(m api.Manifest, then func()) {
	e := manifest.Store(x.disk, m)
	told, _, _ := manifest.Load(x.disk)
	if manifestOf(told) == manifestOf(m) {
		then()
		x.m = m
		x.namesOpen = e != api.OK
	}
	must(e)
}

func (x *model) flush() api.Errno {
	return answer(func() {
		x.mend()
		if len(x.records) == 0 {
			return
		}
		l := map[int]api.Version{}
		for _, r := range x.records {
			w, _ := modelBody(r.Body)
			if w.points == nil {
				l[w.id] = api.Version{Seq: r.Seq, Gone: true, Point: api.Point{Id: w.id}}
			}
			for _, p := range w.points {
				l[p.Id] = api.Version{Seq: r.Seq, Point: p}
			}
		}
		old := x.m
		name, log := fmt.Sprint("s", old.Next), fmt.Sprint("l", old.Next+1)
		x.makeAnew(name, segmentBytes(l))
		x.beginLogAnew(log)
		m := api.Manifest{Segments: append(slices.Clone(old.Segments), name), Log: log, Next: old.Next + 2, Seq: x.seq}
		x.inForce(m, func() { x.segments, x.records = append(x.segments, l), nil })
		x.disk.Remove(old.Log)
	})
}

func (x *model) compact() api.Errno {
	return answer(func() {
		x.mend()
		if len(x.segments) < 2 {
			return
		}
		l := map[int]api.Version{}
		for _, s := range x.segments { // from the oldest on
			maps.Copy(l, s)
		}
		maps.DeleteFunc(l, func(id int, v api.Version) bool { return v.Gone })
		old := x.m
		name := fmt.Sprint("s", old.Next)
		x.makeAnew(name, segmentBytes(l))
		m := api.Manifest{Segments: []string{name}, Log: old.Log, Next: old.Next + 1, Seq: old.Seq}
		x.inForce(m, func() { x.segments = []map[int]api.Version{l} })
		for _, name := range old.Segments {
			x.disk.Remove(name)
		}
	})
}

// life is a store and the model of it, each on a disk of its own to which the same is done, and what is known of the writes.
type life struct {
	t      *testing.T
	draw   *rand.Rand
	config api.Config
	disks  [2]*disk.Disk
	store  *Store
	model  *model
	states []map[int]api.Point // behind the first so many writes, all of which were answered OK
	maybe  []map[int]api.Point // behind one more, which was refused, and nothing mended since
}

// same wants that both disks are the same, and what they told.
func (x *life) same(what string, got, want api.Errno) {
	x.t.Helper()
	if got != want {
		x.t.Fatalf("%s: error %d, want %d", what, got, want)
	}
	if a, b := files(x.t, x.disks[0]), files(x.t, x.disks[1]); !slices.Equal(a, b) {
		x.t.Fatalf("%s: the disk has %q, want %q", what, a, b)
	}
	if a, b := x.disks[0].Steps(), x.disks[1].Steps(); a != b {
		x.t.Fatalf("%s: %d steps, want %d", what, a, b)
	}
	if x.store == nil {
		return
	}
	if got, want := x.store.Broken(), x.model.namesOpen || x.model.logBroken; got != want {
		x.t.Fatalf("%s: Broken %v, want %v", what, got, want)
	}
	has(x.t, x.store, x.model.seq, rising(x.model.points)...)
}

// rising answers the points, by rising ids.
func rising(l map[int]api.Point) []api.Point {
	return slices.SortedFunc(maps.Values(l), func(a, b api.Point) int { return a.Id - b.Id })
}

// open opens both; where the disk refuses that it is no store.
func (x *life) open() {
	s, got := Open(x.disks[0], x.config)
	m, want := modelOpen(x.disks[1], x.config)
	x.store, x.model = s, m
	x.same("Open", got, want)
	if got != api.OK {
		if s != nil || got != api.ErrFault && got != api.ErrFull {
			x.t.Fatalf("Open: %v, %d", s, got)
		}
		return
	}
	x.recovered()
}

// recovered wants that the state is that of the first so many writes, no fewer than were answered OK.
func (x *life) recovered() {
	x.t.Helper()
	n := x.store.Seq()
	got := x.store.Points()
	is := func(l map[int]api.Point) bool { return slices.EqualFunc(got, rising(l), payload.Same) }
	switch {
	case n == len(x.states)-1 && is(x.states[n]):
	case n == len(x.states) && slices.ContainsFunc(x.maybe, is):
		l := map[int]api.Point{}
		for _, p := range got {
			l[p.Id] = p
		}
		x.states = append(x.states, l)
	default:
		x.t.Fatalf("recovered: %d, %v, want of %v, %v", n, got, x.states, x.maybe)
	}
	x.maybe = nil
}

// wrote takes notice of a write that makes this of the state, and of what was answered to it.
func (x *life) wrote(e api.Errno, makes func(map[int]api.Point)) {
	l := maps.Clone(x.states[len(x.states)-1])
	makes(l)
	switch e {
	case api.OK:
		x.states, x.maybe = append(x.states, l), nil
	case api.ErrFault, api.ErrFull:
		x.maybe = append(x.maybe, l)
	}
}

func (x *life) upsert() {
	var l []api.Point
	for range 1 + x.draw.IntN(3) {
		l = append(l, at(1+x.draw.IntN(5), x.draw.IntN(100)))
	}
	if x.draw.IntN(20) == 0 {
		l = append(l, at(0, 1))
	}
	if x.draw.IntN(20) == 0 {
		l = l[:0]
	}
	e := x.store.Upsert(l)
	x.wrote(e, func(points map[int]api.Point) {
		for _, p := range l {
			points[p.Id] = p
		}
	})
	x.same(fmt.Sprint("Upsert ", l), e, x.model.upsert(l))
}

func (x *life) delete() {
	id := x.draw.IntN(7)
	e := x.store.Delete(id)
	x.wrote(e, func(points map[int]api.Point) { delete(points, id) })
	x.same(fmt.Sprint("Delete ", id), e, x.model.delete(id))
}

// tidied calls Flush, or Compact.
func (x *life) tidied(what string, call func(*Store) api.Errno, model func(*model) api.Errno) {
	e := call(x.store)
	x.same(what, e, model(x.model))
	if !x.store.Broken() {
		x.maybe = nil
	}
}

// plan lets some of the next steps go wrong, on both disks.
func (x *life) plan() {
	var l []api.DiskFault
	step := x.disks[0].Steps()
	for range x.draw.IntN(5) {
		step += 1 + x.draw.IntN(8)
		f := api.DiskFault{Step: step, Kind: 1 + x.draw.IntN(3)}
		if f.Kind == api.FaultShort {
			f.N = x.draw.IntN(120)
		}
		l = append(l, f)
	}
	for _, d := range x.disks {
		is(x.t, d.Plan(l), api.OK)
	}
}

// crash lets both disks crash.
func (x *life) crash() {
	c := api.Crash{Names: x.draw.IntN(8)}
	for range x.draw.IntN(4) {
		c.Bytes = append(c.Bytes, x.draw.IntN(150))
	}
	for _, d := range x.disks {
		d.Crash(c)
	}
	x.store = nil
}

// step does something.
func (x *life) step() {
	if x.store == nil {
		switch x.draw.IntN(5) {
		case 0:
			x.plan()
		case 1:
			x.crash()
		default:
			x.open()
		}
		return
	}
	switch x.draw.IntN(20) {
	case 0, 1:
		x.crash()
	case 2:
		x.store = nil // begun again without a crash
	case 3, 4, 5:
		x.plan()
	case 6, 7:
		x.tidied("Flush", (*Store).Flush, (*model).flush)
	case 8:
		x.tidied("Compact", (*Store).Compact, (*model).compact)
	case 9, 10, 11, 12:
		x.delete()
	default:
		x.upsert()
	}
}

func TestLives(t *testing.T) { // 12.1 to 12.7, R5: as the model, step by step, whatever faults and crashes come
	t.Parallel()
	configs := []api.Config{config(0, 0), config(1, 0), config(1, 2), config(2, 2), config(3, 3), config(2, 0), config(0, 2)}
	for seed := range uint64(1200) {
		x := &life{t: t, draw: rand.New(rand.NewPCG(seed, 127)), config: configs[seed%uint64(len(configs))], states: []map[int]api.Point{{}}}
		x.disks = [2]*disk.Disk{disk.New(), disk.New()}
		for range 60 {
			x.step()
		}
	}
}
