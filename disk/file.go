package disk

// file is bytes, the first of which are synced, and the others loose.
type file struct {
	bytes  []byte
	synced int
}

// with is the file with loose bytes at its end.
func (f file) with(b []byte) file {
	return file{append(f.bytes, b...), f.synced}
}

// first is the file's first n bytes, none of them loose.
func (f file) first(n int) file {
	return file{f.bytes[:n], n}
}

// torn is the file behind a crash that keeps so many of the loose bytes.
func (f file) torn(keep int) file {
	loose := len(f.bytes) - f.synced
	return f.first(f.synced + min(max(keep, 0), loose))
}
