// Package stamp is layer 1: see shared/doc/01-stamp.md.
package stamp

import (
	"cmp"
	"strconv"

	"stemma/api"
)

// Right tells whether a stamp may be.
func Right(s api.Stamp) bool {
	return 1 <= s.N && s.N <= api.MaxCounter && replicaRight(s.R)
}

func replicaRight(r int) bool { return 0 <= r && r < api.MaxReplicas }

// Compare tells which one comes first.
func Compare(a, b api.Stamp) int {
	return cmp.Or(cmp.Compare(a.N, b.N), cmp.Compare(a.R, b.R))
}

// Next is a replica's next stamp.
func Next(seen, replica int) (api.Stamp, api.Errno) {
	if !replicaRight(replica) || seen < 0 {
		return api.Stamp{}, api.ErrArg
	}
	if seen >= api.MaxCounter {
		return api.Stamp{}, api.ErrStampFull
	}
	return api.Stamp{N: seen + 1, R: replica}, api.OK
}

// Text is a stamp as text.
func Text(s api.Stamp) string {
	none := s.N == 0 && s.R == 0
	if !none && !Right(s) {
		return ""
	}
	return strconv.Itoa(s.N) + "." + strconv.Itoa(s.R)
}

// Parse is a text's stamp.
func Parse(s string) (api.Stamp, api.Errno) {
	at := 0
	figures := func() int {
		n := 0
		// Beyond MaxCounter no further figure can mend the number, and it would wrap round.
		for ; at < len(s) && '0' <= s[at] && s[at] <= '9' && n <= api.MaxCounter; at++ {
			n = n*10 + int(s[at]-'0')
		}
		return n
	}
	var read api.Stamp
	read.N = figures()
	at++ // whatever stands where the point should
	read.R = figures()
	// What was read is a guess: a stamp has one text, and if s is that one, every form is right.
	if text := Text(read); text == "" || text != s {
		return api.Stamp{}, api.ErrStampForm
	}
	return read, api.OK
}
