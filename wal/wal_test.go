package wal

import (
	"errors"
	"math"
	"math/rand/v2"
	"slices"
	"strings"
	"testing"

	"lodestar/api"
	"lodestar/disk"
)

// The face of the chapter: each call with its exact signature.
var (
	_ func(api.Record) (string, api.Errno)                     = Frame
	_ func(string) ([]api.Record, int, api.Errno)              = Scan
	_ func(*disk.Disk, string) (*Log, []api.Record, api.Errno) = Open
	_ func(*Log, api.Record) api.Errno                         = (*Log).Append
	_ func(*Log) api.Errno                                     = (*Log).Sync
	_ func(*Log) int                                           = (*Log).Size
	_ func(*Log) bool                                          = (*Log).Broken
)

// is wants this error.
func is(t *testing.T, e, want api.Errno) {
	t.Helper()
	if e != want {
		t.Fatalf("error %d, want %d", e, want)
	}
}

// holds wants that the disk's files are these: names and bytes, by turns, rising.
func holds(t *testing.T, d *disk.Disk, want ...string) {
	t.Helper()
	var got []string
	for _, name := range d.Names() {
		s, e := d.Read(name)
		is(t, e, api.OK)
		got = append(got, name, s)
	}
	if !slices.Equal(got, want) {
		t.Fatalf("the disk has %q, want %q", got, want)
	}
}

// on answers a disk on which log has the bytes s, all of it lasting.
func on(t *testing.T, s string) *disk.Disk {
	t.Helper()
	d := disk.New()
	_, e := d.Write("log", s)
	is(t, e, api.OK)
	d.Crash(api.Crash{Names: 1, Bytes: []int{math.MaxInt}})
	return d
}

// opened wants Open to answer a log of these records, and so many bytes.
func opened(t *testing.T, d *disk.Disk, want []api.Record, size int) *Log {
	t.Helper()
	l, got, e := Open(d, "log")
	if l == nil || e != api.OK || !slices.Equal(got, want) {
		t.Fatalf("Open: %v, %d, want %v", got, e, want)
	}
	sized(t, l, size, false)
	return l
}

// sized wants of the log that it has so many bytes, and is broken or not.
func sized(t *testing.T, l *Log, size int, broken bool) {
	t.Helper()
	if l.Size() != size || l.Broken() != broken {
		t.Fatalf("Size %d, Broken %v, want %d, %v", l.Size(), l.Broken(), size, broken)
	}
}

// steps wants that the disk made so many.
func steps(t *testing.T, d *disk.Disk, want int) {
	t.Helper()
	if d.Steps() != want {
		t.Fatalf("%d steps, want %d", d.Steps(), want)
	}
}

// fault plans that the disk's step of that place from now on (1: the next) goes wrong.
func fault(t *testing.T, d *disk.Disk, place, kind, n int) {
	t.Helper()
	is(t, d.Plan([]api.DiskFault{{Step: d.Steps() + place, Kind: kind, N: n}}), api.OK)
}

// notOpened wants Open to answer this error alone.
func notOpened(t *testing.T, d *disk.Disk, name string, want api.Errno) {
	t.Helper()
	if l, r, e := Open(d, name); l != nil || len(r) != 0 || e != want {
		t.Fatalf("Open: %v, %v, %d, want %d", l, r, e, want)
	}
}

func TestOpenRefuses(t *testing.T) { // 9.3
	d := disk.New()
	notOpened(t, nil, "log", api.ErrArg)
	notOpened(t, nil, "", api.ErrArg)
	notOpened(t, d, "", api.ErrArg)
	holds(t, d)
	steps(t, d, 0)
}

func TestOpenBegins(t *testing.T) { // 9.3: the name lasts
	d := disk.New()
	opened(t, d, nil, 0)
	steps(t, d, 3) // Write, SyncNames, Sync
	holds(t, d, "log", "")
	d.Crash(api.Crash{})
	holds(t, d, "log", "")
	opened(t, d, nil, 0)
	steps(t, d, 4)
}

func TestOpenLeavesOtherFiles(t *testing.T) { // 9.3
	d := disk.New()
	_, e := d.Write("lo", frameOf(1, "x"))
	is(t, e, api.OK)
	opened(t, d, nil, 0)
	holds(t, d, "lo", frameOf(1, "x"), "log", "")
}

func TestOpenReads(t *testing.T) { // 9.3: one step, which lets all last
	s, want := logOf(4, "ab", "", "cde")
	d := disk.New()
	_, e := d.Write("log", s)
	is(t, e, api.OK)
	is(t, d.SyncNames(), api.OK)
	opened(t, d, want, len(s))
	steps(t, d, 3)
	d.Crash(api.Crash{})
	holds(t, d, "log", s)
	opened(t, d, want, len(s))
}

func TestOpenCutsWhatIsTorn(t *testing.T) { // 9.3: Cut and Sync, and nothing of it is there any more
	s, want := logOf(4, "ab", "")
	next := frameOf(6, "cde")
	for size := 1; size < len(next); size++ {
		d := on(t, s+next[:size])
		l := opened(t, d, want, len(s))
		steps(t, d, 3)
		holds(t, d, "log", s)
		is(t, l.Append(api.Record{Seq: 6, Body: "other"}), api.OK)
		holds(t, d, "log", s+frameOf(6, "other"))
	}
	d := on(t, next[:7]) // nothing is good
	opened(t, d, nil, 0)
	holds(t, d, "log", "")
}

func TestOpenSyncsWhatIsNotTorn(t *testing.T) { // 9.3: in every case, also behind a Cut
	s, want := logOf(4, "ab", "")
	d := disk.New()
	opened(t, d, nil, 0)
	_, e := d.Write("log", s+"torn")
	is(t, e, api.OK)
	opened(t, d, want, len(s))
	d.Crash(api.Crash{})
	holds(t, d, "log", s)
}

func TestOpenOfNoLog(t *testing.T) { // 9.3: nothing is done
	good := frameOf(1, "ab")
	for _, s := range []string{
		strings.Repeat("x", 16), good + frameOf(3, ""), good + good, headOf(0, 0), frameOf(1<<52+1, ""), headOf(1<<24+1, 1),
		good[:21] + "x", good + headOf(0, 2) + "abcd", good + strings.Repeat("\x00", 16), "x" + good,
	} {
		d := disk.New()
		_, e := d.Write("log", s)
		is(t, e, api.OK)
		is(t, d.SyncNames(), api.OK)
		for range 2 {
			notOpened(t, d, "log", api.ErrWal)
		}
		steps(t, d, 2)
		holds(t, d, "log", s)
		d.Crash(api.Crash{})
		holds(t, d, "log", "") // not synced
	}
}

func TestOpenTellsTheDisksFirstError(t *testing.T) { // 9.3
	s, want := logOf(1, "ab", "c")
	for _, x := range []struct {
		name  string
		begun func(t *testing.T) *disk.Disk
		steps int
		left  []string // behind a fault at each step
	}{
		{"no file", func(*testing.T) *disk.Disk { return disk.New() }, 3, nil},
		{"torn", func(t *testing.T) *disk.Disk { return on(t, s+"torn") }, 2, []string{s + "torn", s}},
		{"whole", func(t *testing.T) *disk.Disk { return on(t, s) }, 1, []string{s}},
	} {
		for place := 1; place <= x.steps; place++ {
			for _, kind := range []int{api.FaultFail, api.FaultFull, api.FaultShort} {
				d := x.begun(t)
				ahead := d.Steps()
				fault(t, d, place, kind, 0)
				refused := api.ErrFault
				if kind == api.FaultFull {
					refused = api.ErrFull
				}
				notOpened(t, d, "log", refused)
				steps(t, d, ahead+place)
				switch {
				case x.left != nil:
					holds(t, d, "log", x.left[place-1])
					opened(t, d, want, len(s))
				case place == 1 && kind != api.FaultShort:
					holds(t, d)
					opened(t, d, nil, 0)
				default:
					holds(t, d, "log", "")
					opened(t, d, nil, 0)
				}
			}
		}
	}
}

func TestAppend(t *testing.T) { // 9.4
	d := disk.New()
	l := opened(t, d, nil, 0)
	is(t, l.Append(api.Record{Seq: 5, Body: "a"}), api.OK)
	is(t, l.Append(api.Record{Seq: 6}), api.OK)
	sized(t, l, 41, false)
	steps(t, d, 5)
	holds(t, d, "log", frameOf(5, "a")+frameOf(6, ""))
	is(t, l.Sync(), api.OK)
	is(t, l.Sync(), api.OK)
	steps(t, d, 7)
	d.Crash(api.Crash{})
	l = opened(t, d, []api.Record{{Seq: 5, Body: "a"}, {Seq: 6}}, 41)
	is(t, l.Append(api.Record{Seq: 5}), api.ErrArg)
	is(t, l.Append(api.Record{Seq: 7, Body: "bc"}), api.OK)
	sized(t, l, 63, false)
	holds(t, d, "log", frameOf(5, "a")+frameOf(6, "")+frameOf(7, "bc"))
}

func TestAppendOfTheFirst(t *testing.T) { // 9.4: without a record any Seq that may be
	for _, seq := range []int{1, 2, 1 << 40, api.MaxId} {
		d := disk.New()
		l := opened(t, d, nil, 0)
		is(t, l.Append(api.Record{Seq: seq, Body: "x"}), api.OK)
		opened(t, d, []api.Record{{Seq: seq, Body: "x"}}, 21)
	}
}

func TestAppendRefuses(t *testing.T) { // 9.4: Frame's error, or what is not next; nothing is done, and the log is not broken
	great := strings.Repeat("x", 1<<24+1)
	for _, first := range []int{0, 1, 7, api.MaxId - 1, api.MaxId} {
		d := disk.New()
		l := opened(t, d, nil, 0)
		want, size, made := "", 0, 3
		if first > 0 {
			is(t, l.Append(api.Record{Seq: first, Body: "ab"}), api.OK)
			want, size, made = frameOf(uint64(first), "ab"), 22, 4
		}
		for _, again := range []*Log{l, opened(t, d, modelOf(want), size)} {
			for _, seq := range []int{math.MinInt, -1, 0, 1, 2, 6, 7, 8, 9, api.MaxId - 1, api.MaxId, api.MaxId + 1, math.MaxInt} {
				is(t, again.Append(api.Record{Seq: seq, Body: great}), api.ErrArg)
				if first > 0 && seq != first+1 || seq < 1 || seq > api.MaxId {
					is(t, again.Append(api.Record{Seq: seq}), api.ErrArg)
				}
			}
			sized(t, again, size, false)
		}
		steps(t, d, made+1)
		holds(t, d, "log", want)
		if first < api.MaxId {
			is(t, l.Append(api.Record{Seq: first + 1, Body: "next"}), api.OK)
			sized(t, l, size+24, false)
		}
	}
}

// modelOf answers the records of s.
func modelOf(s string) []api.Record {
	l, _, _ := modelScan(s)
	return l
}

// brokenBy wants that the log is broken, whatever is asked of it, and does nothing any more.
func brokenBy(t *testing.T, d *disk.Disk, l *Log, size int) {
	t.Helper()
	made := d.Steps()
	for _, r := range []api.Record{{Seq: 1}, {Seq: 2}, {Seq: 3, Body: "x"}, {Seq: 0}, {Seq: -1}, {Seq: math.MaxInt}} {
		is(t, l.Append(r), api.ErrBroken)
		is(t, l.Sync(), api.ErrBroken)
	}
	is(t, l.Append(api.Record{Seq: 3, Body: strings.Repeat("x", 1<<24+1)}), api.ErrBroken)
	sized(t, l, size, true)
	steps(t, d, made)
}

func TestAppendBreaks(t *testing.T) { // 9.4
	next := frameOf(2, "cde")
	for _, x := range []struct {
		kind, n int
		e       api.Errno
	}{
		{api.FaultFail, 0, api.ErrFault}, {api.FaultFull, 0, api.ErrFull}, {api.FaultShort, 0, api.ErrFault}, {api.FaultShort, 1, api.ErrFault},
		{api.FaultShort, 15, api.ErrFault}, {api.FaultShort, 16, api.ErrFault}, {api.FaultShort, 22, api.ErrFault}, {api.FaultShort, 23, api.ErrFault}, {api.FaultShort, 99, api.ErrFault},
	} {
		d := disk.New()
		l := opened(t, d, nil, 0)
		is(t, l.Append(api.Record{Seq: 1, Body: "ab"}), api.OK)
		fault(t, d, 1, x.kind, x.n)
		is(t, l.Append(api.Record{Seq: 2, Body: "cde"}), x.e)
		brokenBy(t, d, l, 22)
		laid := frameOf(1, "ab") + next[:min(x.n, len(next))]
		holds(t, d, "log", laid)
		opened(t, d, modelOf(laid), 20*len(modelOf(laid))+[]int{0, 2, 5}[len(modelOf(laid))])
		brokenBy(t, d, l, 22) // for good: another log was opened, not this one
	}
}

func TestSyncBreaks(t *testing.T) { // 9.4
	for _, n := range []int{0, 1, 2} {
		for _, x := range []struct {
			kind int
			e    api.Errno
		}{{api.FaultFail, api.ErrFault}, {api.FaultFull, api.ErrFull}, {api.FaultShort, api.ErrFault}} {
			d := disk.New()
			l := opened(t, d, nil, 0)
			for i := range n {
				is(t, l.Append(api.Record{Seq: i + 1, Body: "ab"}), api.OK)
			}
			fault(t, d, 1, x.kind, 0)
			is(t, l.Sync(), x.e)
			brokenBy(t, d, l, 22*n)
			d.Crash(api.Crash{})
			opened(t, d, nil, 0)
		}
	}
}

func TestLogWithoutItsFile(t *testing.T) { // 9.4: the disk is the caller's as well
	d := disk.New()
	l := opened(t, d, nil, 0)
	is(t, d.Remove("log"), api.OK)
	is(t, l.Sync(), api.ErrFile)
	brokenBy(t, d, l, 0)
}

func TestLogsOfTwoNames(t *testing.T) { // 9.3, 9.4
	d := disk.New()
	a, _, e := Open(d, "a")
	is(t, e, api.OK)
	b, _, e := Open(d, "b")
	is(t, e, api.OK)
	is(t, a.Append(api.Record{Seq: 1, Body: "a"}), api.OK)
	is(t, b.Append(api.Record{Seq: 9, Body: "bb"}), api.OK)
	is(t, b.Sync(), api.OK)
	is(t, a.Append(api.Record{Seq: 2}), api.OK)
	sized(t, a, 41, false)
	sized(t, b, 22, false)
	d.Crash(api.Crash{})
	holds(t, d, "a", "", "b", frameOf(9, "bb"))
}

func TestNilLog(t *testing.T) { // 9.4
	var l *Log
	is(t, l.Append(api.Record{Seq: 1}), api.ErrArg)
	is(t, l.Append(api.Record{}), api.ErrArg)
	is(t, l.Sync(), api.ErrArg)
	sized(t, l, 0, true)
}

func TestLogOfNoCall(t *testing.T) { // R1
	l := &Log{}
	is(t, l.Append(api.Record{Seq: 1}), api.ErrArg)
	sized(t, l, 0, true)
	l = &Log{}
	is(t, l.Sync(), api.ErrArg)
	sized(t, l, 0, true)
}

func TestAnswersAsErrors(t *testing.T) { // Ways
	if answered(api.OK) != nil || number(nil) != api.OK || number(errors.New("another")) != api.OK {
		t.Error("an error of nothing")
	}
	for _, e := range []api.Errno{api.ErrArg, api.ErrFile, api.ErrFault, api.ErrFull} {
		err := errors.Join(errors.New("ahead"), answered(e)) // wrapped
		if number(err) != e || !errors.Is(err, refusal(e)) || errors.Is(err, refusal(e+1)) {
			t.Errorf("%v", err)
		}
	}
	if s := answered(api.ErrFull).Error(); s != "the disk refused: error 23" {
		t.Errorf("%q", s)
	}
}

func TestCrashAtEachByte(t *testing.T) { // 9.5: what was synced, and of the rest a beginning, whole records
	bodies := []string{"ab", "", "0123456789", "c"}
	s, all := logOf(1, bodies...)
	ends := []int{0, 22, 42, 72, 93}
	for synced := range 5 {
		for left := range len(s) - ends[synced] + 2 {
			d := disk.New()
			l := opened(t, d, nil, 0)
			for i, r := range all {
				if i == synced {
					is(t, l.Sync(), api.OK)
				}
				is(t, l.Append(r), api.OK)
			}
			if synced == 4 {
				is(t, l.Sync(), api.OK)
			}
			d.Crash(api.Crash{Bytes: []int{left}})
			n := synced
			for n < 4 && ends[n+1] <= ends[synced]+left {
				n++
			}
			opened(t, d, all[:n], ends[n])
			d.Crash(api.Crash{})
			opened(t, d, all[:n], ends[n])
			opened(t, d, all[:n], ends[n])
		}
	}
}

// life is a log on a disk that faults and crashes, and what is known of it.
type life struct {
	t      *testing.T
	draw   *rand.Rand
	disk   *disk.Disk
	log    *Log         // nil: to be opened
	laid   []api.Record // what was appended, the last perhaps with an error
	sure   int          // how many of them were synced
	size   int          // of those that were appended without an error
	broken bool
}

// open opens the log, and wants whole records from the beginning on, those that are sure among them.
func (x *life) open() {
	l, got, e := Open(x.disk, "log")
	if e != api.OK {
		if l != nil || got != nil || e != api.ErrFault && e != api.ErrFull {
			x.t.Fatalf("Open: %v, %v, %d", l, got, e)
		}
		x.log = nil
		return
	}
	if len(got) < x.sure || len(got) > len(x.laid) || !slices.Equal(got, x.laid[:len(got)]) {
		x.t.Fatalf("Open: %v; %d of %v are sure", got, x.sure, x.laid)
	}
	again, same, e := Open(x.disk, "log")
	if e == api.OK && (!slices.Equal(same, got) || again.Size() != l.Size()) {
		x.t.Fatalf("opened twice: %v, %v", got, same)
	}
	x.log, x.laid, x.sure, x.broken = l, got, len(got), false
	x.size = 0
	for _, r := range got {
		x.size += 20 + len(r.Body)
	}
}

// append appends a record, mostly one that is next.
func (x *life) append() {
	r := api.Record{Seq: 1 + x.draw.IntN(9), Body: strings.Repeat("b", x.draw.IntN(30))}
	if n := len(x.laid); n > 0 {
		r.Seq = x.laid[n-1].Seq + 1
	}
	if x.draw.IntN(10) == 0 {
		r.Seq += 1 + x.draw.IntN(3)
	}
	next := len(x.laid) == 0 || r.Seq == x.laid[len(x.laid)-1].Seq+1
	switch e := x.log.Append(r); {
	case x.broken:
		is(x.t, e, api.ErrBroken)
	case !next:
		is(x.t, e, api.ErrArg)
	case e == api.OK:
		x.laid = append(x.laid, r)
		x.size += 20 + len(r.Body)
	case e == api.ErrFault || e == api.ErrFull:
		x.laid = append(x.laid, r)
		x.broken = true
	default:
		x.t.Fatalf("Append: %d", e)
	}
}

// sync syncs the log.
func (x *life) sync() {
	switch e := x.log.Sync(); {
	case x.broken:
		is(x.t, e, api.ErrBroken)
	case e == api.OK:
		x.sure = len(x.laid)
	case e == api.ErrFault || e == api.ErrFull:
		x.broken = true
	default:
		x.t.Fatalf("Sync: %d", e)
	}
}

// fault plans that some of the next steps go wrong.
func (x *life) fault() {
	var l []api.DiskFault
	step := x.disk.Steps()
	for range x.draw.IntN(4) {
		step += 1 + x.draw.IntN(6)
		f := api.DiskFault{Step: step, Kind: 1 + x.draw.IntN(3)}
		if f.Kind == api.FaultShort {
			f.N = x.draw.IntN(60)
		}
		l = append(l, f)
	}
	is(x.t, x.disk.Plan(l), api.OK)
}

func TestLives(t *testing.T) { // 9.3, 9.4, 9.5
	for seed := range uint64(3000) {
		x := &life{t: t, draw: rand.New(rand.NewPCG(seed, 95)), disk: disk.New()}
		x.open()
		for range 60 {
			switch n := x.draw.IntN(20); {
			case n == 0:
				x.disk.Crash(api.Crash{Names: x.draw.IntN(2), Bytes: []int{x.draw.IntN(80)}})
				x.log = nil
			case n == 1:
				x.fault()
			case n < 4 || x.log == nil:
				x.open()
			case n < 7:
				x.sync()
			default:
				x.append()
			}
			if x.log != nil {
				sized(t, x.log, x.size, x.broken)
			}
		}
	}
}
