package values

import (
	"testing"

	"examiner/api"
)

// R2: what fails deep inside is told as an error, also if it is a fault of the package.
func TestAttempt(t *testing.T) {
	var none []int
	for what, x := range map[string]struct {
		act  func()
		want failure
	}{
		"nothing":   {func() {}, failure{}},
		"a failure": {func() { panic(failure{api.ErrSyntax, 5}) }, failure{api.ErrSyntax, 5}},
		"a fault":   {func() { none[len(none)] = 1 }, failure{api.ErrBroken, 0}},
		"a string":  {func() { panic(what()) }, failure{api.ErrBroken, 0}},
	} {
		if end := attempt(x.act); end != x.want {
			t.Errorf("%s: %+v, want %+v", what, end, x.want)
		}
	}
}

func what() string { return "something else" }
