package disk

import "argosy/api"

// ask is what is asked ahead of a call: OK lets it go on, anything else is its answer.
type ask func() api.Errno

// call does what it is handed, if something made the disk, and all that is asked first lets it go on.
func (d *Disk) call(do func(), first ...ask) api.Errno {
	if d == nil || d.count == 0 {
		return api.ErrNil
	}
	for _, may := range first {
		if e := may(); e != api.OK {
			return e
		}
	}
	do()
	return api.OK
}

// write is a call that turns a file. The fuse comes behind all else that is asked: what is refused leaves it as it was.
func (d *Disk) write(i int, how func(f file) file, more ...ask) api.Errno {
	first := append([]ask{d.runs, d.has(i)}, more...)
	return d.call(func() { d.turn(i, how) }, append(first, d.burns)...)
}

// turn turns a file. What the file loses goes to the room, and what it gains comes from there: together they stay as many.
func (d *Disk) turn(i int, how func(f file) file) {
	had := len(d.files[i].bytes)
	d.files[i] = how(d.files[i])
	d.room += had - len(d.files[i].bytes)
}

// runs asks whether the disk has power.
func (d *Disk) runs() api.Errno {
	return unless(!d.down, api.ErrDown)
}

// has asks whether there is such a file.
func (d *Disk) has(i int) ask {
	return func() api.Errno { return unless(i >= 0 && i < d.count, api.ErrArg) }
}

// fits asks whether there is room for n bytes.
func (d *Disk) fits(n int) ask {
	return func() api.Errno { return unless(n <= d.room, api.ErrFull) }
}

// reaches asks whether a file has n bytes.
func (d *Disk) reaches(i, n int) ask {
	return func() api.Errno { return unless(n >= 0 && n <= len(d.files[i].bytes), api.ErrArg) }
}

// grows asks whether the room may be n larger.
func (d *Disk) grows(n int) ask {
	// The room is taken off the limit, since n and the room might be more together than an int holds.
	return func() api.Errno { return unless(n >= 0 && n <= maxRoom-d.room, api.ErrArg) }
}

// burns lets the fuse burn by one call; where nothing is left of it, the power goes.
func (d *Disk) burns() api.Errno {
	if d.fuse == 0 {
		d.down = true
		return api.ErrDown
	}
	d.fuse = max(d.fuse-1, noFuse)
	return api.OK
}

// unless is the error where something does not hold.
func unless(holds bool, e api.Errno) api.Errno {
	if holds {
		return api.OK
	}
	return e
}
