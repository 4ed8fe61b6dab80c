package disk

import (
	"maps"

	"pedigree/api"
)

// directory gives names to files by their numbers. A file has one name at most.
type directory map[string]int

// change is of a directory: a file loses the name from and gets the name to. An empty one, which no file ever has, means none: there is none to lose when a file is created, and none to get when it is deleted.
type change struct {
	from, to string
	file     int
}

func (dir directory) do(c change) {
	delete(dir, c.from)
	if c.to != "" {
		dir[c.to] = c.file
	}
}

// change does a change that is loose until the next SyncDir.
func (d *Disk) change(c change) {
	d.dir.do(c)
	d.changes = append(d.changes, c)
}

// dirAfter is the fixed directory after the first n changes.
func (d *Disk) dirAfter(n int) directory {
	dir := maps.Clone(d.fixed)
	for _, c := range d.changes[:n] {
		dir.do(c)
	}
	return dir
}

func valid(name string) bool {
	return len(name) >= 1 && len(name) <= api.MaxFName
}

// Create makes a file without bytes.
func (d *Disk) Create(name string) api.Errno {
	if e := d.ready(); e != api.OK {
		return e
	}
	if !valid(name) {
		return api.ErrName
	}
	if _, there := d.dir[name]; there {
		return api.ErrExists
	}
	if len(d.dir) >= api.MaxFiles {
		return api.ErrMany
	}
	d.files[d.next] = &file{}
	d.change(change{to: name, file: d.next})
	d.next++
	return d.done()
}

// Rename gives a file another name. A file that had it has none any more.
func (d *Disk) Rename(name, to string) api.Errno {
	if e := d.ready(); e != api.OK {
		return e
	}
	n, there := d.dir[name]
	switch {
	case !there:
		return api.ErrNone
	case !valid(to):
		return api.ErrName
	}
	if to != name {
		d.change(change{from: name, to: to, file: n})
	}
	return d.done()
}

// Delete takes a file's name away. Its bytes stay till SyncDir, since a loss of power may bring the name back.
func (d *Disk) Delete(name string) api.Errno {
	if e := d.ready(); e != api.OK {
		return e
	}
	n, there := d.dir[name]
	if !there {
		return api.ErrNone
	}
	d.change(change{from: name, file: n})
	return d.done()
}

// SyncDir fixes the directory.
func (d *Disk) SyncDir() api.Errno {
	if e := d.ready(); e != api.OK {
		return e
	}
	d.fixed = maps.Clone(d.dir)
	d.changes = nil
	d.forget()
	return d.done()
}

// forget drops the files to which no loss of power can give a name.
func (d *Disk) forget() {
	named := d.dir.files()
	for n, f := range d.files {
		if _, has := named[n]; !has {
			d.fix(n, f)
			delete(d.files, n)
		}
	}
}

// files are the numbers of the files that have names.
func (dir directory) files() map[int]struct{} {
	numbers := map[int]struct{}{}
	for _, n := range dir {
		numbers[n] = struct{}{}
	}
	return numbers
}
