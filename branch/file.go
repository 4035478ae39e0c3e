package branch

import (
	"argosy/api"
	"argosy/disk"
)

// made tells whether there is a disk, and something made it: each one that was made has a file.
func made(d *disk.Disk) bool {
	return d.Files() > 0
}

// branches tells how many branches a disk has.
func branches(d *disk.Disk) int {
	return d.Files() - 1
}

// lastFile is the file that holds the text: it stands behind the branches.
func lastFile(d *disk.Disk) int {
	return branches(d)
}

// has tells whether there is such a branch.
func has(d *disk.Disk, i int) bool {
	return i >= 0 && i < branches(d)
}

// trim cuts off what stands behind a file's first bytes. A cut of nothing is not done: it would burn the fuse, and make last what is loose.
func trim(d *disk.Disk, i, size int) api.Errno {
	if len(d.Read(i)) == size {
		return api.OK
	}
	return d.Cut(i, size)
}

// replace lets a file have other bytes, all at once, and makes them last.
func replace(d *disk.Disk, i int, b []byte) api.Errno {
	if e := trim(d, i, 0); e != api.OK {
		return e
	}
	if e := d.Append(i, b); e != api.OK {
		return e
	}
	return d.Sync(i)
}
