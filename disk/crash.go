package disk

import "lodestar/api"

// link says which file a name leads to; nil: none.
type link struct {
	name string
	to   *file
}

// change is one thing that was done to names: of each that it touched, where it led ahead of it.
type change []link

// relink lets names lead elsewhere, and keeps where they led, for a crash that undoes it.
func (d *Disk) relink(l ...link) {
	var before change
	for _, x := range l {
		before = append(before, link{x.name, d.files[x.name]})
		d.lead(x)
	}
	d.open = append(d.open, before)
}

// lead lets a name lead where the link says.
func (d *Disk) lead(x link) {
	if x.to == nil {
		delete(d.files, x.name)
		return
	}
	if d.files == nil {
		d.files = map[string]*file{}
	}
	d.files[x.name] = x.to
}

// Crash leaves the first c.Names open changes and, of each file, what was synced and so many bytes behind it as c.Bytes says.
func (d *Disk) Crash(c api.Crash) {
	if d == nil {
		return
	}
	d.undo(c.Names)
	for i, name := range d.Names() {
		f := d.files[name]
		// Not the sum of both: c.Bytes may say any number.
		f.cut(f.synced + min(left(c.Bytes, i), len(f.data)-f.synced))
		f.synced = len(f.data)
	}
	d.open = nil
	d.planned = nil
}

// undo takes back the open changes but the first keep, from the last one on, so that each finds the names as it left them.
func (d *Disk) undo(keep int) {
	for i := len(d.open) - 1; i >= max(keep, 0); i-- {
		for _, x := range d.open[i] {
			d.lead(x)
		}
	}
}

// left answers how many open bytes the crash leaves of the file whose name has that place.
func left(l []int, place int) int {
	if len(l) == 0 {
		return 0
	}
	return max(l[place%len(l)], 0)
}
