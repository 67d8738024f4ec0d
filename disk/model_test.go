package disk

import (
	"maps"
	"math/rand/v2"
	"slices"
	"strings"
	"testing"

	"lodestar/api"
)

// A model of the disk that goes another way: it keeps the names as they lasted, and all that was done to them since, and plays that again at each question.

type modelFile struct {
	synced, open string
}

type modelChange struct {
	kind, from, to string
	file           *modelFile
}

type model struct {
	lasting map[string]*modelFile
	changes []modelChange
	faults  []api.DiskFault
	steps   int
}

// names plays the first n open changes over the names that last.
func (m *model) names(n int) map[string]*modelFile {
	out := maps.Clone(m.lasting)
	for _, c := range m.changes[:n] {
		switch c.kind {
		case "begun":
			out[c.from] = c.file
		case "renamed":
			out[c.to] = out[c.from]
			delete(out, c.from)
		case "removed":
			delete(out, c.from)
		}
	}
	return out
}

func (m *model) file(name string) *modelFile {
	return m.names(len(m.changes))[name]
}

// fault counts a step and tells what is to happen at it.
func (m *model) fault() api.DiskFault {
	m.steps++
	for _, x := range m.faults {
		if x.Step == m.steps {
			return x
		}
	}
	return api.DiskFault{}
}

func errorOf(x api.DiskFault) api.Errno {
	return [...]api.Errno{0: api.OK, api.FaultFail: api.ErrFault, api.FaultShort: api.ErrFault, api.FaultFull: api.ErrFull}[x.Kind]
}

func (m *model) write(name, s string) (int, api.Errno) {
	if name == "" {
		return 0, api.ErrArg
	}
	x := m.fault()
	if x.Kind == api.FaultFail || x.Kind == api.FaultFull {
		return 0, errorOf(x)
	}
	if x.Kind == api.FaultShort && x.N < len(s) {
		s = s[:x.N]
	}
	if m.file(name) == nil {
		m.changes = append(m.changes, modelChange{kind: "begun", from: name, file: &modelFile{}})
	}
	m.file(name).open += s
	return len(s), errorOf(x)
}

// at does a thing to the file that the name leads to.
func (m *model) at(name string, do func(f *modelFile)) api.Errno {
	if name == "" {
		return api.ErrArg
	}
	f := m.file(name)
	if f == nil {
		return api.ErrFile
	}
	if x := m.fault(); x.Kind != 0 {
		return errorOf(x)
	}
	do(f)
	return api.OK
}

func (m *model) cut(name string, size int) api.Errno {
	return m.at(name, func(f *modelFile) {
		all := f.synced + f.open
		if size < 0 {
			size = 0
		}
		if size < len(all) {
			all = all[:size]
		}
		if len(all) < len(f.synced) {
			f.synced = all
		}
		f.open = all[len(f.synced):]
	})
}

func (m *model) sync(name string) api.Errno {
	return m.at(name, func(f *modelFile) { f.synced, f.open = f.synced+f.open, "" })
}

func (m *model) rename(from, to string) api.Errno {
	if to == "" {
		return api.ErrArg
	}
	return m.at(from, func(*modelFile) {
		if from != to {
			m.changes = append(m.changes, modelChange{kind: "renamed", from: from, to: to})
		}
	})
}

func (m *model) remove(name string) api.Errno {
	return m.at(name, func(*modelFile) { m.changes = append(m.changes, modelChange{kind: "removed", from: name}) })
}

func (m *model) syncNames() api.Errno {
	if x := m.fault(); x.Kind != 0 {
		return errorOf(x)
	}
	m.lasting, m.changes = m.names(len(m.changes)), nil
	return api.OK
}

func (m *model) crash(c api.Crash) {
	m.lasting = m.names(min(max(c.Names, 0), len(m.changes)))
	m.changes, m.faults = nil, nil
	for i, name := range slices.Sorted(maps.Keys(m.lasting)) {
		f := m.lasting[name]
		if len(c.Bytes) > 0 {
			f.synced += f.open[:min(max(c.Bytes[i%len(c.Bytes)], 0), len(f.open))]
		}
		f.open = ""
	}
}

// pair is a disk and its model, to which the same is done.
type pair struct {
	t *testing.T
	r *rand.Rand
	d *Disk
	m *model
}

func (p *pair) name() string {
	return [...]string{"a", "b", "c", "d", ""}[min(p.r.IntN(17)/4, 4)]
}

func (p *pair) planOne() {
	var l []api.DiskFault
	for step := p.d.Steps() + 1 + p.r.IntN(3); len(l) < 3; step += 1 + p.r.IntN(4) {
		kind := 1 + p.r.IntN(3)
		n := 0
		if kind == api.FaultShort {
			n = p.r.IntN(6)
		}
		l = append(l, api.DiskFault{Step: step, Kind: kind, N: n})
	}
	p.same(p.d.Plan(l), api.OK)
	p.m.faults = l
}

func (p *pair) crash() {
	c := api.Crash{Names: p.r.IntN(8) - 1}
	for range p.r.IntN(4) {
		c.Bytes = append(c.Bytes, p.r.IntN(9)-1)
	}
	p.d.Crash(c)
	p.m.crash(c)
}

func (p *pair) same(got, want api.Errno) {
	p.t.Helper()
	if got != want {
		p.t.Fatalf("error %d, want %d", got, want)
	}
}

// act does one drawn thing to both.
func (p *pair) act() {
	name, other, size := p.name(), p.name(), p.r.IntN(12)-2
	switch p.r.IntN(20) {
	case 0, 1, 2, 3, 4:
		s := "0123456789"[:p.r.IntN(7)]
		n, e := p.d.Write(name, s)
		want, e2 := p.m.write(name, s)
		if n != want {
			p.t.Fatalf("Write: %d, want %d", n, want)
		}
		p.same(e, e2)
	case 5, 6, 7:
		p.same(p.d.Sync(name), p.m.sync(name))
	case 8, 9:
		p.same(p.d.Cut(name, size), p.m.cut(name, size))
	case 10, 11, 12, 13:
		p.same(p.d.Rename(name, other), p.m.rename(name, other))
	case 14, 15:
		p.same(p.d.Remove(name), p.m.remove(name))
	case 16, 17:
		p.same(p.d.SyncNames(), p.m.syncNames())
	case 18:
		p.planOne()
	default:
		p.crash()
	}
}

// compare wants the same files and steps of both.
func (p *pair) compare() {
	p.t.Helper()
	files := p.m.names(len(p.m.changes))
	names := slices.Sorted(maps.Keys(files))
	if got := p.d.Names(); !slices.Equal(got, names) || p.d.Steps() != p.m.steps {
		p.t.Fatalf("names %q, want %q; steps %d, want %d", got, names, p.d.Steps(), p.m.steps)
	}
	for _, name := range names {
		want := files[name].synced + files[name].open
		if s, e := p.d.Read(name); s != want || e != api.OK {
			p.t.Fatalf("Read(%q) = %q, %d, want %q", name, s, e, want)
		}
	}
}

func TestAgainstModel(t *testing.T) { // 2.1, 2.2, 2.3
	for seed := range uint64(300) {
		p := &pair{t, rand.New(rand.NewPCG(seed, 2)), New(), &model{lasting: map[string]*modelFile{}}}
		for range 200 {
			p.act()
			p.compare()
		}
	}
}

func TestTheSameAgain(t *testing.T) { // R5
	for seed := range uint64(50) {
		a := &pair{t, rand.New(rand.NewPCG(seed, 3)), New(), &model{lasting: map[string]*modelFile{}}}
		b := &pair{t, rand.New(rand.NewPCG(seed, 3)), New(), &model{lasting: map[string]*modelFile{}}}
		for range 200 {
			a.act()
			b.act()
		}
		if !slices.Equal(a.d.Names(), b.d.Names()) || a.d.Steps() != b.d.Steps() {
			t.Fatal("two disks to which the same was done are not the same")
		}
	}
}

// keep lays two bytes behind the file kept, and syncs it and the names, in both; whether all of it went well.
func (p *pair) keep() bool {
	_, e := p.d.Write("kept", "xy")
	_, e2 := p.m.write("kept", "xy")
	p.same(e, e2)
	sync, names := p.d.Sync("kept"), p.d.SyncNames()
	p.same(sync, p.m.sync("kept"))
	p.same(names, p.m.syncNames())
	return e == api.OK && sync == api.OK && names == api.OK
}

func TestSyncedAndLastingStays(t *testing.T) { // 2.5: whatever is done to others, and whatever crash comes
	for seed := range uint64(300) {
		p := &pair{t, rand.New(rand.NewPCG(seed, 4)), New(), &model{lasting: map[string]*modelFile{}}}
		kept := ""
		for range 100 {
			p.act()
			if p.keep() {
				kept, _ = p.d.Read("kept")
			}
			p.act()
			if s, _ := p.d.Read("kept"); !strings.HasPrefix(s, kept) {
				t.Fatalf("%q was synced, and there is %q", kept, s)
			}
		}
		if kept == "" {
			t.Fatal("nothing was kept")
		}
	}
}
