package store

import (
	"slices"
	"strconv"

	"lodestar/api"
	"lodestar/disk"
	"lodestar/manifest"
	"lodestar/segment"
	"lodestar/wal"
)

// Flush puts what the log's records made into a segment, and begins a new log. The state stays as it is.
func (s *Store) Flush() api.Errno {
	if s == nil {
		return api.ErrArg
	}
	if e := s.mend(); e != api.OK {
		return e
	}
	if s.journal.records == 0 {
		return api.OK
	}
	old := s.manifest
	// Of each id the last, also where one upsert had it twice.
	made := segment.Merge([]api.Segment{{Versions: s.journal.made}}, false)
	name := segmentName(old.Next)
	if e := s.makeAnew(name, made); e != api.OK {
		return e
	}
	m := api.Manifest{Segments: behind(old.Segments, name), Log: logName(old.Next + 1), Next: old.Next + 2, Seq: s.last}
	log, e := begunAnew(s.disk, m.Log)
	if e != api.OK {
		return e
	}
	return s.replace(inForce{m, behind(s.segments, made), journal{log: log}}, old.Log)
}

// Compact merges all segments into one. The state stays as it is.
func (s *Store) Compact() api.Errno {
	if s == nil {
		return api.ErrArg
	}
	if e := s.mend(); e != api.OK {
		return e
	}
	if len(s.segments) < 2 {
		return api.OK
	}
	old := s.manifest
	merged := segment.Merge(s.segments, true)
	name := segmentName(old.Next)
	if e := s.makeAnew(name, merged); e != api.OK {
		return e
	}
	m := api.Manifest{Segments: []string{name}, Log: old.Log, Next: old.Next + 1, Seq: old.Seq}
	return s.replace(inForce{m, []api.Segment{merged}, s.journal}, old.Segments...)
}

// replace puts f in force, in place of what was, and removes the files of these names, which do not count then. As long as it is not sure that the new manifest outlasts a crash they stay: the old one needs them.
func (s *Store) replace(f inForce, unneeded ...string) api.Errno {
	if e := manifest.Store(s.disk, f.manifest); e != api.OK {
		if s.isInForce(f.manifest) {
			s.inForce = f
			s.namesOpen = true
		}
		return e
	}
	s.inForce = f
	for _, name := range unneeded {
		// One that stays is removed by the next Open.
		s.disk.Remove(name)
	}
	return api.OK
}

// isInForce tells whether m, not the manifest ahead of it, is what the disk tells. Their Nexts differ.
func (s *Store) isInForce(m api.Manifest) bool {
	told, ok, _ := manifest.Load(s.disk)
	return ok && told.Next == m.Next
}

// makeAnew lets the file of that name have the segment's bytes, and no others.
func (s *Store) makeAnew(name string, made api.Segment) api.Errno {
	b, e := segment.Encode(made)
	if e != api.OK {
		return e
	}
	if e := cleared(s.disk, name); e != api.OK {
		return e
	}
	if _, e := s.disk.Write(name, b); e != api.OK {
		return e
	}
	return s.disk.Sync(name)
}

// begunAnew answers a log without records in the file of that name.
func begunAnew(d *disk.Disk, name string) (*wal.Log, api.Errno) {
	if e := cleared(d, name); e != api.OK {
		return nil, e
	}
	log, _, e := wal.Open(d, name)
	return log, e
}

// cleared lets the name lead to no file: one that was begun in vain may have it.
func cleared(d *disk.Disk, name string) api.Errno {
	if e := d.Remove(name); e != api.ErrFile {
		return e
	}
	return api.OK
}

// behind answers l and x behind it, in new memory.
func behind[T any](l []T, x T) []T {
	return append(slices.Clone(l), x)
}

// segmentName and logName answer the names of the files with that number.
func segmentName(n int) string { return "s" + strconv.Itoa(n) }
func logName(n int) string     { return "l" + strconv.Itoa(n) }
