// Package letters tells which names are made of letters alone, as the layers 1
// and 3 ask for it. It calls nothing.
package letters

const most = 8 // letters of a name

// IsName returns whether a name has 1 to 8 letters (a to z, A to Z). It counts
// bytes: letters are one byte each, and anything else is refused anyway.
func IsName(name string) bool {
	if len(name) < 1 || len(name) > most {
		return false
	}
	for _, r := range name {
		if !('a' <= r && r <= 'z' || 'A' <= r && r <= 'Z') {
			return false
		}
	}
	return true
}
