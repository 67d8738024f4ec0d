package store

import (
	"slices"

	"lodestar/api"
	"lodestar/disk"
	"lodestar/manifest"
	"lodestar/payload"
	"lodestar/segment"
	"lodestar/wal"
)

// manifestName is the name of the manifest's file.
const manifestName = "manifest"

// Open answers the store that the disk has; on a disk without a manifest a new one is begun.
func Open(d *disk.Disk, c api.Config) (*Store, api.Errno) {
	if d == nil || c.Flush < 0 || c.Compact < 0 || c.Compact == 1 {
		return nil, api.ErrArg
	}
	if e := payload.CheckSchema(c.Schema); e != api.OK {
		return nil, e
	}
	c.Schema.Vectors = slices.Clone(c.Schema.Vectors)
	c.Schema.Fields = slices.Clone(c.Schema.Fields)
	s := &Store{table: table{points: map[int]api.Point{}}, disk: d, config: c}
	if e := s.load(); e != api.OK {
		return nil, e
	}
	if e := s.sweep(); e != api.OK {
		return nil, e
	}
	return s, api.OK
}

// load finds what the manifest in force names; without one it begins.
func (s *Store) load() api.Errno {
	m, ok, e := manifest.Load(s.disk)
	if e != api.OK {
		return e
	}
	if !ok {
		return s.begin()
	}
	return s.restore(m)
}

// begin puts a first manifest in force, over a log without records.
func (s *Store) begin() api.Errno {
	m := api.Manifest{Log: logName(1), Next: 2}
	log, e := begunAnew(s.disk, m.Log)
	if e != api.OK {
		return e
	}
	s.inForce = inForce{manifest: m, journal: journal{log: log}}
	return manifest.Store(s.disk, m)
}

// restore makes the state again from the files that m names.
func (s *Store) restore(m api.Manifest) api.Errno {
	segments, e := readSegments(s.disk, m.Segments)
	if e != api.OK {
		return e
	}
	log, records, e := wal.Open(s.disk, m.Log)
	if e != api.OK {
		return e
	}
	if len(records) > 0 && records[0].Seq != m.Seq+1 {
		return api.ErrWal
	}
	made, ok := madeByAll(records)
	if !ok {
		return api.ErrWal
	}
	if !fits(s.config.Schema, behind(segments, api.Segment{Versions: made})) {
		return api.ErrSchema
	}
	s.inForce = inForce{manifest: m, segments: segments, journal: journal{log: log, records: len(records), size: log.Size(), made: made}}
	s.put(segment.Merge(segments, true).Versions)
	s.put(made)
	s.last = m.Seq + len(records)
	return api.OK
}

// sweep removes what does not count, such as an earlier flush left, and lets the names last.
func (s *Store) sweep() api.Errno {
	counting := slices.Concat([]string{manifestName, s.manifest.Log}, s.manifest.Segments)
	for _, name := range s.disk.Names() {
		if slices.Contains(counting, name) {
			continue
		}
		if e := s.disk.Remove(name); e != api.OK {
			return e
		}
	}
	return s.disk.SyncNames()
}

// readSegments answers the segments that the files of these names have.
func readSegments(d *disk.Disk, names []string) ([]api.Segment, api.Errno) {
	var l []api.Segment
	for _, name := range names {
		b, e := d.Read(name)
		if e != api.OK {
			return nil, e
		}
		s, e := segment.Decode(b)
		if e != api.OK {
			return nil, e
		}
		l = append(l, s)
	}
	return l, api.OK
}

// madeByAll answers what the writes with these records made, in their order; false, if the body of one is no write's.
func madeByAll(records []api.Record) ([]api.Version, bool) {
	var all []api.Version
	for _, r := range records {
		made, ok := madeBy(r)
		if !ok {
			return nil, false
		}
		all = append(all, made...)
	}
	return all, true
}

// fits tells whether the schema takes all points of l, also those that newer ones hide.
func fits(schema api.Schema, l []api.Segment) bool {
	for _, s := range l {
		for _, v := range s.Versions {
			if !v.Gone && payload.Check(schema, v.Point) != api.OK {
				return false
			}
		}
	}
	return true
}
