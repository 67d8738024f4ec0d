package manifest

import (
	"math"
	"math/rand/v2"
	"slices"
	"testing"

	"lodestar/api"
	"lodestar/disk"
)

// The face of the chapter: each call with its exact signature.
var (
	_ func(api.Manifest) (string, api.Errno)           = Encode
	_ func(string) (api.Manifest, api.Errno)           = Decode
	_ func(*disk.Disk, api.Manifest) api.Errno         = Store
	_ func(*disk.Disk) (api.Manifest, bool, api.Errno) = Load
)

// is wants this error.
func is(t *testing.T, e, want api.Errno) {
	t.Helper()
	if e != want {
		t.Fatalf("error %d, want %d", e, want)
	}
}

// holds wants that the disk's files are these: names and bytes, by turns, rising.
func holds(t *testing.T, d *disk.Disk, want ...string) {
	t.Helper()
	if got := files(t, d); !slices.Equal(got, want) {
		t.Fatalf("the disk has %q, want %q", got, want)
	}
}

// files answers the disk's files: names and bytes, by turns, rising.
func files(t *testing.T, d *disk.Disk) []string {
	t.Helper()
	var got []string
	for _, name := range d.Names() {
		s, e := d.Read(name)
		is(t, e, api.OK)
		got = append(got, name, s)
	}
	return got
}

// on answers a disk with these files: names and bytes, by turns; all of it lasts.
func on(t *testing.T, l ...string) *disk.Disk {
	t.Helper()
	d := disk.New()
	for i := 0; i < len(l); i += 2 {
		_, e := d.Write(l[i], l[i+1])
		is(t, e, api.OK)
	}
	d.Crash(api.Crash{Names: len(l), Bytes: []int{math.MaxInt}})
	return d
}

// steps wants that the disk made so many.
func steps(t *testing.T, d *disk.Disk, want int) {
	t.Helper()
	if d.Steps() != want {
		t.Fatalf("%d steps, want %d", d.Steps(), want)
	}
}

// loads wants of Load this manifest, and no step.
func loads(t *testing.T, d *disk.Disk, want api.Manifest) {
	t.Helper()
	made := d.Steps()
	if m, ok, e := Load(d); !same(m, want) || !ok || e != api.OK {
		t.Fatalf("Load: %v, %v, %d, want %v", m, ok, e, want)
	}
	steps(t, d, made)
}

// loadsNone wants of Load this error, and no step.
func loadsNone(t *testing.T, d *disk.Disk, want api.Errno) {
	t.Helper()
	made := d.Steps()
	if m, ok, e := Load(d); !same(m, api.Manifest{}) || ok || e != want {
		t.Fatalf("Load: %v, %v, %d, want %d", m, ok, e, want)
	}
	steps(t, d, made)
}

// older and newer are two manifests, with their bytes.
func older() (api.Manifest, string) {
	m := api.Manifest{Log: "l1", Next: 2}
	return m, summed(modelLines(m))
}

func newer() (api.Manifest, string) {
	m := some()
	return m, summed(modelLines(m))
}

func TestStoreRefuses(t *testing.T) { // 11.2
	m, s := older()
	is(t, Store(nil, m), api.ErrArg)
	is(t, Store(nil, api.Manifest{}), api.ErrArg) // named ahead of Encode's error
	for _, bad := range []api.Manifest{{}, {Log: "l2", Next: 2}, {Log: "l01", Next: 5}, {Log: "l1", Next: 5, Segments: []string{"s1", "s1"}}, {Log: "l1", Next: 2, Seq: -1}} {
		d := on(t, "manifest", s, "tmp", "left")
		is(t, Store(d, bad), api.ErrManifest)
		steps(t, d, 2)
		holds(t, d, "manifest", s, "tmp", "left")
		loads(t, d, m)
	}
}

func TestStoreFixed(t *testing.T) { // 11.2
	m, s := older()
	n, z := newer()
	d := disk.New()
	is(t, Store(d, m), api.OK)
	steps(t, d, 4) // Write, Sync, Rename, SyncNames
	holds(t, d, "manifest", s)
	loads(t, d, m)
	is(t, Store(d, n), api.OK)
	steps(t, d, 8)
	holds(t, d, "manifest", z)
	loads(t, d, n)
	d.Crash(api.Crash{})
	holds(t, d, "manifest", z)
	loads(t, d, n)
	is(t, Store(d, n), api.OK) // the same again
	holds(t, d, "manifest", z)
}

func TestStoreTakesWhatWasBegunAway(t *testing.T) { // 11.2
	_, s := older()
	n, z := newer()
	for _, left := range []string{"", "x", z, z[:20], s + z} {
		d := on(t, "manifest", s, "tmp", left)
		is(t, Store(d, n), api.OK)
		steps(t, d, 7) // and Remove
		holds(t, d, "manifest", z)
		d.Crash(api.Crash{})
		holds(t, d, "manifest", z)
	}
}

func TestStoreLeavesOtherFiles(t *testing.T) { // 11.2
	n, z := newer()
	d := on(t, "l1", "log", "s2", "", "t", "more", "tmp1", "x")
	is(t, Store(d, n), api.OK)
	holds(t, d, "l1", "log", "manifest", z, "s2", "", "t", "more", "tmp1", "x")
	is(t, Store(d, n), api.OK)
	holds(t, d, "l1", "log", "manifest", z, "s2", "", "t", "more", "tmp1", "x")
}

// byWords does what 11.2 says of storing the bytes s, word by word.
func byWords(d *disk.Disk, s string) api.Errno {
	if slices.Contains(d.Names(), "tmp") {
		if e := d.Remove("tmp"); e != api.OK {
			return e
		}
	}
	_, e := d.Write("tmp", s)
	if e == api.OK {
		e = d.Sync("tmp")
	}
	if e == api.OK {
		e = d.Rename("tmp", "manifest")
	}
	if e == api.OK {
		return d.SyncNames()
	}
	if slices.Contains(d.Names(), "tmp") {
		d.Remove("tmp")
	}
	return e
}

// begunDisk answers a disk of that kind, with some of its changes and bytes open.
func begunDisk(t *testing.T, kind int) *disk.Disk {
	t.Helper()
	_, s := older()
	switch kind {
	case 0:
		return disk.New()
	case 1:
		return on(t, "manifest", s)
	case 2:
		return on(t, "manifest", s, "tmp", "left by another")
	case 3:
		return on(t, "tmp", "left by another")
	}
	d := on(t, "l1", "log", "manifest", s, "x", "gone")
	for _, e := range []api.Errno{d.Remove("x"), d.Rename("l1", "s1")} {
		is(t, e, api.OK)
	}
	for _, name := range []string{"tmp", "s1", "z"} {
		_, e := d.Write(name, "open")
		is(t, e, api.OK)
	}
	return d
}

// faulty plans the faults whose bits stand in mask, each for one of the next steps.
func faulty(t *testing.T, d *disk.Disk, mask, kind, n int) {
	t.Helper()
	var l []api.DiskFault
	for i := range 7 {
		if mask>>i&1 == 1 {
			l = append(l, api.DiskFault{Step: d.Steps() + 1 + i, Kind: kind, N: n})
		}
	}
	is(t, d.Plan(l), api.OK)
}

func TestStoreAsWords(t *testing.T) { // 11.2: the same steps under the same faults, as every crash tells
	n, z := newer()
	crashes := []api.Crash{{Names: -1}, {}, {Names: 1, Bytes: []int{3}}, {Names: 2}, {Names: 3, Bytes: []int{0, 99}}, {Names: 4}, {Names: 5}, {Names: 6}, {Names: 9, Bytes: []int{math.MaxInt}}}
	for begun := range 5 {
		for mask := range 1 << 7 {
			for _, fault := range []api.DiskFault{{Kind: api.FaultFail}, {Kind: api.FaultFull}, {Kind: api.FaultShort}, {Kind: api.FaultShort, N: 20}, {Kind: api.FaultShort, N: 9999}} {
				for i, c := range crashes {
					got, want := begunDisk(t, begun), begunDisk(t, begun)
					for _, d := range []*disk.Disk{got, want} {
						faulty(t, d, mask, fault.Kind, fault.N)
					}
					is(t, Store(got, n), byWords(want, z))
					steps(t, got, want.Steps())
					holds(t, got, files(t, want)...)
					if i%2 == 0 { // what is planned is still so
						for _, d := range []*disk.Disk{got, want} {
							d.Write("later", "x")
						}
						steps(t, got, want.Steps())
						holds(t, got, files(t, want)...)
					}
					got.Crash(c)
					want.Crash(c)
					holds(t, got, files(t, want)...)
				}
			}
		}
	}
}

func TestStoreRefusedAtEachStep(t *testing.T) { // 11.2: by the answers, told by hand
	m, s := older()
	n, z := newer()
	for _, x := range []struct {
		kind int
		e    api.Errno
	}{{api.FaultFail, api.ErrFault}, {api.FaultFull, api.ErrFull}, {api.FaultShort, api.ErrFault}} {
		for step, made := range []int{1: 1, 2: 3, 3: 4, 4: 5, 5: 5} { // Remove; Write, Sync, Rename, and Remove behind each; SyncNames
			if step == 0 {
				continue
			}
			d := on(t, "manifest", s, "tmp", "left")
			faulty(t, d, 1<<(step-1), x.kind, 0)
			is(t, Store(d, n), x.e)
			switch {
			case step == 1:
				holds(t, d, "manifest", s, "tmp", "left")
				loads(t, d, m)
			case step < 5:
				holds(t, d, "manifest", s)
				loads(t, d, m)
			default: // it is renamed
				holds(t, d, "manifest", z)
				loads(t, d, n)
			}
			if x.kind != api.FaultShort && step == 2 { // nothing was begun
				made--
			}
			steps(t, d, 2+made)
			is(t, Store(d, n), api.OK)
			holds(t, d, "manifest", z)
		}
	}
}

func TestStoreRefusedTwice(t *testing.T) { // 11.2: what the Remove behind a refused step answers is not told
	_, s := older()
	n, z := newer()
	d := on(t, "manifest", s)
	is(t, d.Plan([]api.DiskFault{{Step: 2, Kind: api.FaultShort, N: 5}, {Step: 3, Kind: api.FaultFull}}), api.OK)
	is(t, Store(d, n), api.ErrFault)
	steps(t, d, 3)
	holds(t, d, "manifest", s, "tmp", z[:5])
	is(t, d.Plan([]api.DiskFault{{Step: 6, Kind: api.FaultFull}, {Step: 7, Kind: api.FaultFail}}), api.OK)
	is(t, Store(d, n), api.ErrFull) // Remove, Write, Sync, Remove
	steps(t, d, 7)
	holds(t, d, "manifest", s, "tmp", z)
	is(t, Store(d, n), api.OK)
	holds(t, d, "manifest", z)
}

func TestLoadFixed(t *testing.T) { // 11.3
	m, s := older()
	n, z := newer()
	loads(t, on(t, "manifest", s), m)
	loads(t, on(t, "manifest", z, "tmp", s), n)
	loadsNone(t, nil, api.ErrArg)
	loadsNone(t, disk.New(), api.OK)
	loadsNone(t, on(t, "tmp", s, "l1", s, "Manifest", s, "manifest ", s), api.OK)
	for _, bad := range []string{"", "x", s[1:], s[:len(s)-1], s + "\n", s + s, summed("lodestar 1\nnext 2\nseq 0\nlog l2\n")} {
		loadsNone(t, on(t, "manifest", bad, "tmp", s), api.ErrManifest)
	}
}

func TestLoadTakesNoFault(t *testing.T) { // 11.3: to read is no step
	m, s := older()
	d := on(t, "manifest", s)
	faulty(t, d, 1, api.FaultFail, 0)
	loads(t, d, m)
	if _, e := d.Write("x", ""); e != api.ErrFault {
		t.Errorf("error %d", e)
	}
}

func TestStoreLeavesWhatIsHandedIn(t *testing.T) { // R4
	n, z := newer()
	kept := append(n.Segments, "behind")
	n.Segments = kept[:3]
	d := disk.New()
	is(t, Store(d, n), api.OK)
	if !slices.Equal(kept, append(some().Segments, "behind")) {
		t.Errorf("%q", kept)
	}
	kept[0] = "s1"
	holds(t, d, "manifest", z)
	a, _, _ := Load(d)
	a.Segments[1] = "s1"
	loads(t, d, some())
}

func TestCrashAtEachMoment(t *testing.T) { // 11.4: the old one or the new one, whole
	old, s := older()
	n, z := newer()
	seen := map[string]int{}
	for moment := 1; moment <= 7; moment++ {
		for short := -1; short <= len(z)+1; short++ {
			for names := range 7 {
				for _, left := range []int{0, 1, 40, len(z) - 1, len(z), len(z) + 1} {
					d := on(t, "manifest", s, "tmp", "left")
					l := []api.DiskFault{{Step: 2 + moment, Kind: api.FaultFail}} // from that step on nothing is done
					if short >= 0 {
						l[0] = api.DiskFault{Step: 2 + moment, Kind: api.FaultShort, N: short}
					}
					for i := range 9 {
						l = append(l, api.DiskFault{Step: 3 + moment + i, Kind: api.FaultFail})
					}
					is(t, d.Plan(l), api.OK)
					e := Store(d, n)
					d.Crash(api.Crash{Names: names, Bytes: []int{left}})
					m, ok, bad := Load(d)
					if !ok || bad != api.OK || !same(m, n) && (!same(m, old) || e == api.OK) {
						t.Fatalf("%d, %d, %d, %d: %v, %v, %d behind %d", moment, short, names, left, m, ok, bad, e)
					}
					seen[m.Log]++
				}
			}
		}
	}
	if seen["l1"] == 0 || seen["l13"] == 0 || len(seen) != 2 {
		t.Errorf("%v", seen)
	}
}

// life is a disk that faults and crashes, on which manifests are stored, and what is known of it.
type life struct {
	t        *testing.T
	draw     *rand.Rand
	disk     *disk.Disk
	now      string   // the bytes of the manifest in force; "": there is none
	possible []string // what of these a crash may leave
	next     int
}

// store stores another manifest.
func (x *life) store() {
	x.next++
	m := api.Manifest{Log: "l1", Next: x.next, Seq: x.draw.IntN(100)}
	s := summed(modelLines(m))
	e := Store(x.disk, m)
	bytes, _ := x.disk.Read("manifest")
	switch {
	case e == api.OK:
		x.now, x.possible = s, []string{s}
	case e != api.ErrFault && e != api.ErrFull:
		x.t.Fatalf("Store: error %d", e)
	case bytes == s: // refused behind the Rename
		x.now, x.possible = s, append(x.possible, s)
	}
	x.loads()
}

// loads wants of Load the manifest in force.
func (x *life) loads() {
	x.t.Helper()
	m, ok, e := Load(x.disk)
	if ok != (x.now != "") || e != api.OK || ok && summed(modelLines(m)) != x.now {
		x.t.Fatalf("Load: %v, %v, %d, want %q", m, ok, e, x.now)
	}
}

// crash lets the disk crash, and wants that one of the manifests is there that may be.
func (x *life) crash() {
	x.disk.Crash(api.Crash{Names: x.draw.IntN(7), Bytes: []int{x.draw.IntN(60), x.draw.IntN(60)}})
	x.now, _ = x.disk.Read("manifest")
	if !slices.Contains(x.possible, x.now) {
		x.t.Fatalf("a crash left %q of %q", x.now, x.possible)
	}
	x.possible = []string{x.now}
	x.loads()
}

// fault plans that some of the next steps go wrong.
func (x *life) fault() {
	var l []api.DiskFault
	step := x.disk.Steps()
	for range x.draw.IntN(4) {
		step += 1 + x.draw.IntN(5)
		f := api.DiskFault{Step: step, Kind: 1 + x.draw.IntN(3)}
		if f.Kind == api.FaultShort {
			f.N = x.draw.IntN(60)
		}
		l = append(l, f)
	}
	is(x.t, x.disk.Plan(l), api.OK)
}

func TestLives(t *testing.T) { // 11.2 to 11.4
	for seed := range uint64(2000) {
		x := &life{t: t, draw: rand.New(rand.NewPCG(seed, 114)), disk: disk.New(), possible: []string{""}, next: 1}
		for range 40 {
			switch x.draw.IntN(6) {
			case 0:
				x.crash()
			case 1, 2:
				x.fault()
			default:
				x.store()
			}
		}
	}
}
