package values

import "examiner/api"

// A failure ends from deep inside what is brought into normal form, written or read: the error, and the place in the text that is read.
type failure struct {
	e  api.Errno
	at int
}

// attempt does what may fail, and returns the failure with which it ended, if it did.
func attempt(act func()) (end failure) {
	defer func() {
		p := recover()
		if p == nil {
			return
		}
		f, ok := p.(failure)
		if !ok { // a fault of this package: told as an error, since no function may panic
			f = failure{e: api.ErrBroken}
		}
		end = f
	}()
	act()
	return failure{}
}
