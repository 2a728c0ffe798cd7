package first_test

import (
	"testing"

	"freshet/api"
	"freshet/first"
)

func TestFail(t *testing.T) {
	var e first.Error
	for _, x := range []struct{ fail, want api.Errno }{
		{api.OK, api.OK},
		{api.ErrType, api.ErrType},
		{api.OK, api.ErrType},
		{api.ErrRange, api.ErrType},
		{api.ErrType, api.ErrType},
	} {
		e.Fail(x.fail)
		if e.Why != x.want {
			t.Errorf("behind the error %d: %d, want %d", x.fail, e.Why, x.want)
		}
	}
}
