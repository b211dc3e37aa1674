package files

import (
	"errors"
	"strings"

	"inkling/api"
)

// Line: P6.6.
func Line(text string, offset int) (int, int) {
	if offset < 0 || offset > len(text) {
		return 0, 0
	}
	ahead := text[:offset]
	// Without a byte 10 ahead its place is -1, as if one stood right ahead of the text.
	return strings.Count(ahead, "\n") + 1, offset - strings.LastIndexByte(ahead, '\n')
}

// Class: P6.7.
func Class(e error) api.Errno {
	if e == nil {
		return api.OK
	}
	var fault *api.Fault
	if errors.As(e, &fault) && fault != nil {
		return fault.Class
	}
	var errno api.Errno
	if errors.As(e, &errno) {
		return errno
	}
	return api.ErrArg
}

// At: P6.8.
func At(e error, file string, offset int, name string) error {
	if e == nil {
		return nil
	}
	return &api.Fault{Class: Class(e), File: file, Offset: offset, Name: name, Err: e}
}
