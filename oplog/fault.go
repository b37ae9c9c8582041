package oplog

import (
	"errors"
	"strconv"

	"stemma/api"
)

// fault is the error of what was tried in vain: it wraps the number that tells why.
type fault struct {
	tried string
	why   number
}

func (f fault) Error() string { return f.tried + ": " + f.why.Error() }

func (f fault) Unwrap() error { return f.why }

// number is an error's number as an error.
type number api.Errno

func (n number) Error() string { return "error " + strconv.Itoa(int(n)) }

// because is the error of what was tried and answered a number, none if that is OK.
func because(tried string, errno api.Errno) error {
	if errno == api.OK {
		return nil
	}
	return fault{tried, number(errno)}
}

// noFile tells whether an error is that a file is not there.
func noFile(err error) bool { return errors.Is(err, number(api.ErrFileNone)) }

// numberOf is the number that an error wraps.
func numberOf(err error) api.Errno {
	var why number
	if !errors.As(err, &why) {
		return api.OK
	}
	return api.Errno(why)
}
