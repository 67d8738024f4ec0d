package store

import (
	"lodestar/api"
	"lodestar/disk"
	"lodestar/wal"
)

// journal is the log in force, and what its records made. Its good records are those of the writes that are in the state; behind them its file may have one that was refused, or a part of it.
type journal struct {
	log     *wal.Log
	records int           // how many are good
	size    int           // how many bytes these have
	made    []api.Version // what these made, in their order
	broken  bool
}

// add lays the record of the write with number seq, which made these versions, and lets it last.
func (j *journal) add(seq int, made []api.Version) api.Errno {
	if e := j.lay(api.Record{Seq: seq, Body: body(made)}); e != api.OK {
		j.broken = true
		return e
	}
	j.records++
	j.size = j.log.Size()
	j.made = append(j.made, made...)
	return api.OK
}

// lay lays r behind the other records, and lets it last.
func (j *journal) lay(r api.Record) api.Errno {
	if e := j.log.Append(r); e != api.OK {
		return e
	}
	return j.log.Sync()
}

// mend takes away what stands behind the good records: the next record is laid right behind them, with the number that the refused one had.
func (j *journal) mend(d *disk.Disk, name string) api.Errno {
	if e := d.Cut(name, j.size); e != api.OK {
		return e
	}
	log, _, e := wal.Open(d, name)
	if e != api.OK {
		return e
	}
	j.log = log
	j.broken = false
	return api.OK
}
