package font

import "typecase/api"

const (
	maxNumberBytes = 5
	maxLength      = 65536
)

// tooGreat is beyond all that any field of a valid font may hold, and yet fits each of them, also with a minus.
const tooGreat = 1 << 30

// reader reads an encoding from the start. Once there is an error, what it reads means nothing.
type reader struct {
	rest []byte
	err  api.Errno // the first error
}

func (r *reader) fail(e api.Errno) {
	if r.err == api.OK {
		r.err = e
	}
}

// next reads a byte. It returns 0 if there is none.
func (r *reader) next() byte {
	if len(r.rest) == 0 {
		r.fail(api.ErrEnd)
		return 0
	}
	b := r.rest[0]
	r.rest = r.rest[1:]
	return b
}

// number reads a number. One that is too great for every field is read as another one that is, too.
func (r *reader) number() int {
	var bits uint64
	for i := range maxNumberBytes {
		b := r.next()
		bits |= uint64(b&^moreFlag) << (groupBits * i)
		if b >= moreFlag {
			continue
		}
		if b == 0 && i > 0 {
			r.fail(api.ErrForm)
		}
		return signed(bits)
	}
	// The fault is at the sixth byte, which may be missing.
	r.next()
	r.fail(api.ErrForm)
	return 0
}

// signed returns the number that is encoded as the unsigned number bits.
func signed(bits uint64) int {
	half := int(min(bits>>1, tooGreat))
	if bits&1 == 1 {
		return -half - 1
	}
	return half
}

func (r *reader) length() int {
	n := r.number()
	if n < 0 || n > maxLength {
		r.fail(api.ErrForm)
	}
	return n
}

func (r *reader) yes() bool {
	n := r.number()
	if n != 0 && n != 1 {
		r.fail(api.ErrForm)
	}
	return n == 1
}

func (r *reader) tag() string {
	var tag []byte
	for range tagBytes {
		b := r.next()
		if !isTagByte(b) {
			r.fail(api.ErrForm)
		}
		tag = append(tag, b)
	}
	return string(tag)
}

func (r *reader) magic() {
	for i := range len(magic) {
		if r.next() != magic[i] {
			r.fail(api.ErrForm)
		}
	}
}

// end checks that all has been read.
func (r *reader) end() {
	if len(r.rest) > 0 {
		r.fail(api.ErrForm)
	}
}

// readList reads a length and as many elements, or those before the first error.
func readList[T any](r *reader, readOne func(r *reader) T) []T {
	var list []T
	for n := r.length(); n > 0 && r.err == api.OK; n-- {
		list = append(list, readOne(r))
	}
	return list
}
