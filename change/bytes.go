package change

import (
	"runnel/api"
	"runnel/num"
	"runnel/row"
)

// What a note is, told by the byte behind its out.
const (
	frontByte = 0
	upByte    = 1
)

// Encode: a log's bytes.
func Encode(l []api.Note) ([]byte, api.Errno) {
	if len(l) > api.MaxNotes {
		return nil, api.ErrMany
	}
	b := num.Put(nil, uint64(len(l)))
	for _, n := range l {
		told, e := toldNote(n)
		if e != api.OK {
			return nil, e
		}
		b = append(b, told...)
	}
	return b, api.OK
}

// toldNote is a note as bytes, of the fields alone that play a part in it.
func toldNote(n api.Note) ([]byte, api.Errno) {
	b := num.PutInt(nil, n.Out)
	if n.IsUp {
		return putUp(append(b, upByte), n.Up)
	}
	return putFront(append(b, frontByte), n.Front)
}

func putUp(b []byte, u api.Up) ([]byte, api.Errno) {
	b, e := row.Put(b, u.Row)
	if e != api.OK {
		return nil, e
	}
	return putNumber(putTime(b, u.Time), u.Diff), api.OK
}

func putFront(b []byte, f []api.Time) ([]byte, api.Errno) {
	if len(f) > api.MaxFront {
		return nil, api.ErrMany
	}
	b = num.Put(b, uint64(len(f)))
	for _, t := range f {
		b = putTime(b, t)
	}
	return b, api.OK
}

func putTime(b []byte, t api.Time) []byte { return putNumber(putNumber(b, t.Epoch), t.Round) }

// putNumber goes behind bytes that are its caller's own: num.PutInt behind them would copy all of them for each number.
func putNumber(b []byte, n int) []byte { return append(b, num.PutInt(nil, n)...) }

// Decode: bytes' log.
func Decode(b []byte) (l []api.Note, e api.Errno, at int) {
	r := &reader{bytes: b}
	count := take(r, num.Get)
	if r.bad || count > api.MaxNotes {
		return nil, api.ErrForm, 0
	}
	for range count {
		begins := r.at
		n := r.note()
		if r.bad {
			return nil, api.ErrForm, begins
		}
		l = append(l, n)
	}
	if r.at < len(b) {
		return nil, api.ErrForm, r.at
	}
	return l, api.OK, len(b)
}

// reader goes through bytes. Once something is not as it must be it stays there, and nothing that it tells counts any more.
type reader struct {
	bytes []byte
	at    int
	bad   bool
}

// take: what is got at the reader's place, which comes behind it.
func take[T any](r *reader, get func(b []byte, at int) (T, int, api.Errno)) T {
	x, next, e := get(r.bytes, r.at)
	r.bad = r.bad || e != api.OK
	if !r.bad {
		r.at = next
	}
	return x
}

func (r *reader) note() api.Note {
	n := api.Note{Out: take(r, num.GetInt)}
	n.IsUp = take(r, getKind) == upByte
	switch {
	case r.bad:
		// What is told behind is not known.
	case n.IsUp:
		n.Up = r.up()
	default:
		n.Front = r.front()
	}
	return n
}

func (r *reader) up() api.Up {
	var u api.Up
	u.Row = take(r, row.Get)
	u.Time = r.time()
	u.Diff = take(r, num.GetInt)
	return u
}

func (r *reader) front() []api.Time {
	count := take(r, num.Get)
	if count > api.MaxFront {
		r.bad = true
	}
	if r.bad {
		return nil
	}
	f := make([]api.Time, count)
	for i := range f {
		f[i] = r.time()
	}
	return f
}

func (r *reader) time() api.Time {
	epoch := take(r, num.GetInt)
	round := take(r, num.GetInt)
	return api.Time{Epoch: epoch, Round: round}
}

// getKind: the byte that says what a note is.
func getKind(b []byte, at int) (kind byte, next int, e api.Errno) {
	if at == len(b) || b[at] > upByte {
		return 0, 0, api.ErrForm
	}
	return b[at], at + 1, api.OK
}
