package plate

// A file has bytes that are safe, and loose ones behind them.
type file struct {
	data []byte
	safe int // how many of data are safe
}

// crash keeps the safe bytes and the first loose ones, as many as it is told.
// What it keeps is safe, so that a file with two names may be told it twice.
func (f *file) crash(loose int) {
	f.safe += within(loose, len(f.data)-f.safe)
	f.data = f.data[:f.safe]
}

// A step is a name's getting a file, or, if that is nil, its going.
type step struct {
	name string
	file *file
}

// A directory has the files that are named. Two names may have one file.
type directory map[string]*file

// take does the steps, in order.
func (d directory) take(steps ...step) {
	for _, s := range steps {
		if s.file == nil {
			delete(d, s.name)
		} else {
			d[s.name] = s.file
		}
	}
}

// size is how many bytes the files have, one with two names counted twice.
func (d directory) size() int {
	n := 0
	for _, f := range d {
		n += len(f.data)
	}
	return n
}

// isName tells whether a file may have that name.
func isName(s string) bool {
	if len(s) < 1 || len(s) > 32 {
		return false
	}
	for i := range len(s) {
		if !isNameByte(s[i]) {
			return false
		}
	}
	return true
}

func isNameByte(c byte) bool {
	return c >= 'a' && c <= 'z' || c >= '0' && c <= '9' || c == '.' || c == '-'
}
