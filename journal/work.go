package journal

import (
	"errors"
	"strings"

	"dialtone/api"
	"dialtone/wire"
)

// failure is what a step that fails panics with: the error that do returns.
type failure struct {
	errno api.Errno
}

// do makes steps, one after the other, up to the first one that fails.
func do(steps ...func()) (errno api.Errno) {
	errno = api.ErrJournal // of a panic that is no failure
	defer func() {
		if f, ok := recover().(failure); ok {
			errno = f.errno
		}
	}()
	for _, step := range steps {
		step()
	}
	return api.OK
}

// work is what a journal does in steps that use its disk.
type work struct {
	*Journal
}

// write lets the disk write s at off.
func (w work) write(off int, s string) {
	w.called(w.disk.Write(off, s))
}

// sync lets the disk make certain what was written.
func (w work) sync() {
	w.called(w.disk.Sync())
}

// called lets the step fail, and breaks the journal, if a call of the disk returned an error.
func (w work) called(errno api.Errno) {
	if errno != api.OK {
		w.broken = true
		panic(failure{errno})
	}
}

// How the search for stored records ends.
var (
	errEnd     = errors.New("no record begins here")
	errDamaged = errors.New("the record that begins here is damaged")
)

// opening is the work of Open, on the whole content of the disk.
type opening struct {
	work
	content string
}

// read reads the disk.
func (o *opening) read() {
	content, errno := o.disk.Read(0, o.disk.Size())
	o.called(errno)
	o.content = content
}

// load takes all records from the content. It fails if one of them is damaged.
func (o *opening) load() {
	err := o.next()
	for err == nil {
		err = o.next()
	}
	if errors.Is(err, errDamaged) {
		panic(failure{api.ErrDamaged})
	}
}

// next takes the record that begins at the end of those before it. It must be stored exactly
// as add stores it.
func (o *opening) next() error {
	rest := o.content[o.end:]
	if rest == "" || rest[0] == 0 {
		return errEnd
	}
	record, _, errno := wire.String(rest, len(mark))
	if errno != api.OK || !strings.HasPrefix(rest, o.add(record)) {
		return errDamaged
	}
	return nil
}

// clean writes zero bytes after the records, unless there are only such bytes.
func (o *opening) clean() {
	rest := o.content[o.end:]
	zeros := strings.Repeat("\x00", len(rest))
	if rest != zeros {
		o.write(o.end, zeros)
		o.sync()
	}
}
