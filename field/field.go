// Package field is parts of words: so many bits from some bit on.
package field

import "remontoire/api"

// wordBits is how many bits a word has.
const wordBits = 64

// Field is so many bits from some bit on.
type Field struct {
	At   int
	Size int
}

// Right tells whether a word has a field.
func (f Field) Right() bool {
	// At and Size are not added up: their sum may wrap round.
	return f.Size >= 1 && f.Size <= wordBits && f.At >= 0 && f.At <= wordBits-f.Size
}

// Most tells the greatest number of a field; 0: a word has none such.
func (f Field) Most() uint64 {
	if !f.Right() {
		return 0
	}
	return ^uint64(0) >> (wordBits - f.Size)
}

// mask is the bits of a field, where they stand in a word.
func (f Field) mask() uint64 {
	if !f.Right() {
		return 0
	}
	return f.Most() << f.At
}

// Get tells what stands in a field; 0: a word has none such.
func (f Field) Get(w uint64) uint64 {
	if !f.Right() {
		return 0
	}
	return w >> f.At & f.Most()
}

// Put puts a number in a field. ErrArg: a word has none such, or it doesn't fit.
func (f Field) Put(w, n uint64) (uint64, api.Errno) {
	if !f.Right() || n > f.Most() {
		return 0, api.ErrArg
	}
	return w&^f.mask() | n<<f.At, api.OK
}

// Signed tells what stands in a field, its highest bit worth less than nothing; 0: a word has none such.
func (f Field) Signed(w uint64) int64 {
	if !f.Right() {
		return 0
	}
	// The highest bit of the field is brought to that of the word, whence the shift back copies it.
	away := wordBits - f.Size
	return int64(f.Get(w)<<away) >> away
}

// Apart tells whether two fields have no bit in common; one that a word doesn't have has none.
func Apart(a, b Field) bool {
	return a.mask()&b.mask() == 0
}

// Join puts numbers in fields, one by one, in a word of noughts. ErrArg: there are not as many, one doesn't fit, or two fields are not apart.
func Join(l []Field, n ...uint64) (uint64, api.Errno) {
	if len(l) != len(n) {
		return 0, api.ErrArg
	}
	var w uint64
	for i, f := range l {
		if !apartFromAll(f, l[:i]) {
			return 0, api.ErrArg
		}
		var e api.Errno
		if w, e = f.Put(w, n[i]); e != api.OK {
			return 0, e
		}
	}
	return w, api.OK
}

// apartFromAll tells whether a field is Apart from each of others.
func apartFromAll(f Field, others []Field) bool {
	for _, o := range others {
		if !Apart(f, o) {
			return false
		}
	}
	return true
}

// Split tells what stands in fields.
func Split(l []Field, w uint64) []uint64 {
	parts := make([]uint64, len(l))
	for i, f := range l {
		parts[i] = f.Get(w)
	}
	return parts
}
