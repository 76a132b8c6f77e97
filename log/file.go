package log

import (
	"maund/api"
	"maund/files"
	"maund/frame"
)

// file is a file by its name, be it there or not.
type file struct {
	among *files.Files
	name  string
}

// open is the records that stand on the file, whose tail is cut off; nothing, and nothing is written, if it is not there.
func (x *file) open() ([][]byte, api.Errno) {
	b, e := x.among.Read(x.name)
	if e == api.ErrNone {
		return nil, x.mayBe()
	}
	if e != api.OK {
		return nil, e
	}
	records, tail, e := frame.Read(b)
	if e != api.OK {
		return nil, e
	}
	return records, x.keep(tail)
}

// mayBe is ErrArg, if no file may have the name. Files tell that of their first Append alone, so others are asked, and these stay as they are.
func (x *file) mayBe() api.Errno {
	others, _ := files.New(0)
	return others.Append(x.name, nil)
}

// keep lets the file have its first n bytes alone, all of them safe.
func (x *file) keep(n int) api.Errno {
	if e := x.among.Cut(x.name, n); e != api.OK {
		return e
	}
	return x.sync()
}

// add puts a record's frame behind the others.
func (x *file) add(b []byte) api.Errno {
	framed, e := frame.Write(b)
	if e != api.OK {
		return e
	}
	return x.among.Append(x.name, framed)
}

// sync makes the file safe; OK, if it is not there.
func (x *file) sync() api.Errno {
	e := x.among.Sync(x.name)
	if e == api.ErrNone {
		return api.OK
	}
	return e
}
