package batch

import (
	"errors"
	"testing"

	"spoor/api"
)

func TestGivenUpIsToldAsAFault(t *testing.T) {
	v, err := caught(func() int {
		giveUp(7, api.ErrBatchForm)
		return 1
	})
	f, ok := err.(*api.Fault)
	if v != 0 || !ok || *f != (api.Fault{At: 7, Err: api.ErrBatchForm}) {
		t.Errorf("%d %v", v, err)
	}
	v, err = caught(func() int { return must(3, nil) })
	if v != 3 || err != nil {
		t.Errorf("%d %v", v, err)
	}
	up := &gaveUp{&api.Fault{At: 7, Err: api.ErrBatchForm}}
	if !errors.Is(up, api.ErrBatchForm) || up.Error() != "batch: given up: "+up.why.Error() {
		t.Error(up)
	}
}

// A panic that nobody here gave up is a fault of the program: it must not look like one of the bytes.
func TestOtherPanicsGoOn(t *testing.T) {
	fault := &api.Fault{At: 1, Err: api.ErrBatchForm}
	for _, other := range []any{"text", errors.New("error"), fault, &gaveUp{errors.New("no fault")}} {
		func() {
			defer func() {
				if up := recover(); up != other {
					t.Errorf("%v came up, not %v", up, other)
				}
			}()
			v, err := caught(func() int { panic(other) })
			t.Errorf("%v: %d %v", other, v, err)
		}()
	}
}
