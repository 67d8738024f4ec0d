package wal

import (
	"errors"
	"strconv"

	"lodestar/api"
	"lodestar/disk"
)

// refusal is the number by which a disk refused a call, as an error.
type refusal api.Errno

// Error tells the refusal in words.
func (r refusal) Error() string {
	return "the disk refused: error " + strconv.Itoa(int(r))
}

// answered makes an error of what a disk answered; nil, if it refused nothing.
func answered(e api.Errno) error {
	if e == api.OK {
		return nil
	}
	return refusal(e)
}

// number answers the number of what a disk refused; OK, if that is nothing.
func number(err error) api.Errno {
	var r refusal
	if !errors.As(err, &r) {
		return api.OK
	}
	return api.Errno(r)
}

// file is a name on a disk, whose answers its methods give as errors.
type file struct {
	disk *disk.Disk
	name string
}

// read answers the file's bytes; if there is no such file, it is begun first.
func (f file) read() (string, error) {
	s, e := f.disk.Read(f.name)
	err := answered(e)
	if !errors.Is(err, refusal(api.ErrFile)) {
		return s, err
	}
	if err := f.begin(); err != nil {
		return "", err
	}
	s, e = f.disk.Read(f.name)
	return s, answered(e)
}

// begin makes the file, without bytes, and lets its name last.
func (f file) begin() error {
	if err := f.write(""); err != nil {
		return err
	}
	return answered(f.disk.SyncNames())
}

// write lays s behind the file's bytes.
func (f file) write(s string) error {
	_, e := f.disk.Write(f.name, s)
	return answered(e)
}

// cut leaves the file's first size bytes.
func (f file) cut(size int) error {
	return answered(f.disk.Cut(f.name, size))
}

// sync lets the file's bytes last.
func (f file) sync() error {
	return answered(f.disk.Sync(f.name))
}
