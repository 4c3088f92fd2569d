package files

import "parterre/api"

// The kinds of acts.
const (
	put    = 1
	remove = 2
	rename = 3
)

// Act is one of a batch.
type Act struct {
	Kind           int
	Name, To, Data string
}

// Put is the act by which a file has these bytes, instead of those that it had.
func Put(name, data string) Act {
	return Act{Kind: put, Name: name, Data: data}
}

// Delete is the act by which a file is gone.
func Delete(name string) Act {
	return Act{Kind: remove, Name: name}
}

// Rename is the act by which a file has another name.
func Rename(name, to string) Act {
	return Act{Kind: rename, Name: name, To: to}
}

// Named tells whether a text is a name.
func Named(s string) bool {
	for _, b := range []byte(s) {
		if b < 33 || b > 126 {
			return false
		}
	}
	return len(s) >= 1 && len(s) <= api.MaxName
}
