package notation

import "examiner/api"

// A failure ends what is read or written from deep inside: the place in the text that is read, and the error.
type failure struct {
	at int
	e  api.Errno
}

// attempt does what may fail, and returns the failure with which it ended, if it did.
func attempt(act func()) (end failure) {
	defer func() {
		p := recover()
		if p == nil {
			return
		}
		f, ok := p.(failure)
		if !ok { // a fault of this package: told as an error, since no function may panic
			f = failure{e: api.ErrBroken}
		}
		end = f
	}()
	act()
	return failure{}
}
