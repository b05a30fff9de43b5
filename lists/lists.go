// Package lists asks and changes lists of anything, for several layers. It
// calls nothing.
package lists

// All returns whether something is so for each of a list; it asks them in order.
func All[T any](list []T, is func(T) bool) bool {
	for _, x := range list {
		if !is(x) {
			return false
		}
	}
	return true
}

// Has returns whether something of a list has a number.
func Has[T any](list []T, n int) bool { return 0 <= n && n < len(list) }

// Map returns what is made of each of a list, in order.
func Map[A, B any](list []A, of func(A) B) []B {
	var made []B
	for _, x := range list {
		made = append(made, of(x))
	}
	return made
}
