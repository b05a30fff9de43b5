package attempt_test

import (
	"testing"

	"swingle/api"
	"swingle/attempt"
)

// down gives up at the end, after so many calls of itself.
func down(n int) int {
	if n == 0 {
		panic(attempt.GiveUp{Why: api.ErrNone})
	}
	return 1 + down(n-1)
}

func TestDo(t *testing.T) {
	if n, why := attempt.Do(func() int { return 7 }); n != 7 || why != api.OK {
		t.Error(n, why)
	}
	if n, why := attempt.Do(func() int { return down(5) }); n != 0 || why != api.ErrNone {
		t.Error(n, why)
	}
}

// Who gives up inside of another attempt ends the inner one alone.
func TestInside(t *testing.T) {
	n, why := attempt.Do(func() int {
		_, why := attempt.Do(func() int { return down(1) })
		return int(why)
	})
	if n != int(api.ErrNone) || why != api.OK {
		t.Error(n, why)
	}
}
