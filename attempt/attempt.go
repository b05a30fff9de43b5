// Package attempt lets a function give up from deep inside: it panics with a
// GiveUp, and whoever called it by Do is told why. Several layers do; it calls
// nothing but api.
package attempt

import "swingle/api"

// GiveUp is what a search, or a construction, panics with where it can't go on.
type GiveUp struct {
	Why api.Errno
}

// Do returns what a function returns, or why it gave up.
func Do[T any](do func() T) (made T, why api.Errno) {
	defer func() {
		if gave, ok := recover().(GiveUp); ok {
			why = gave.Why
		}
	}()
	made = do()
	return made, api.OK
}
