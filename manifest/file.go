package manifest

import (
	"pedigree/api"
	"pedigree/disk"
)

// Save lets a manifest count. It is whole, and fixed, before it gets the name: there is always one that counts.
func Save(d *disk.Disk, m api.Manifest) api.Errno {
	return tried(func() {
		b := got(Bytes(m))
		if _, e := d.Size(sideName); e == api.OK {
			need(d.Delete(sideName))
		}
		need(d.Create(sideName))
		need(d.Write(sideName, 0, b))
		need(d.Sync(sideName))
		need(d.Rename(sideName, fileName))
		need(d.SyncDir())
	})
}

// Load is the manifest that counts.
func Load(d *disk.Disk) (api.Manifest, bool, api.Errno) {
	if _, e := d.Size(fileName); e == api.ErrNone {
		return api.Manifest{}, false, api.OK
	}
	m, e := answered(func() api.Manifest {
		size := got(d.Size(fileName))
		return got(Parse(got(d.Read(fileName, 0, size))))
	})
	return m, e == api.OK, e
}
