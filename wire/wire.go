// Package wire is layer 1: numbers in as few bytes as they need: see shared/doc/01-wire.md.
package wire

import (
	"slices"

	"braidwork/api"
)

const (
	bitsPerByte = 7    // of a number; the eighth bit tells whether more follow
	more        = 0x80 // the eighth bit
	lastPlace   = 9    // a tenth byte has room for the 64th bit alone
)

// Writer puts numbers, and bytes. The zero Writer has put nothing.
type Writer struct {
	put []byte
}

// Num: a number, seven bits a byte, the lowest first, the eighth bit where more follow.
func (w *Writer) Num(n uint64) {
	for n >= more {
		w.put = append(w.put, byte(n)|more)
		n >>= bitsPerByte
	}
	w.put = append(w.put, byte(n))
}

// Raw: bytes as they are.
func (w *Writer) Raw(b []byte) {
	w.put = append(w.put, b...)
}

// Bytes: what was put. It is a copy, as later calls may still write behind what stands here.
func (w *Writer) Bytes() []byte {
	return slices.Clone(w.put)
}

// Reader takes them back, up to the first error.
type Reader struct {
	all []byte
	at  int
	err api.Errno
}

// Read: of bytes. They are copied, so that the caller may change them while they are read.
func Read(b []byte) *Reader {
	return &Reader{all: slices.Clone(b)}
}

// Num: the next number. ErrForm, if it isn't as Writer puts it; ErrShort, if the bytes end ahead of its end.
func (r *Reader) Num() uint64 {
	if r.err != api.OK {
		return 0
	}
	n, size, err := firstNum(r.all[r.at:])
	r.at += size
	r.err = err
	return n
}

// firstNum: the number that b begins with, and how many bytes it has; or why there is none.
func firstNum(b []byte) (uint64, int, api.Errno) {
	var n uint64
	var c byte
	i := 0
take:
	if i == len(b) {
		return 0, 0, api.ErrShort
	}
	c = b[i]
	// A last byte of 0 adds nothing: the number needs fewer bytes.
	if c == 0 && i > 0 || c > 1 && i == lastPlace {
		return 0, 0, api.ErrForm
	}
	n |= uint64(c&^more) << (bitsPerByte * i)
	i++
	if c >= more {
		goto take
	}
	return n, i, api.OK
}

// Raw: the next n bytes. ErrShort, if there aren't as many, or n is below 0.
func (r *Reader) Raw(n int) []byte {
	if r.err != api.OK {
		return nil
	}
	if n < 0 || n > r.Left() {
		r.err = api.ErrShort
		return nil
	}
	from := r.at
	r.at += n
	return slices.Clone(r.all[from:r.at])
}

// At: how many bytes were taken.
func (r *Reader) At() int {
	return r.at
}

// Left: how many weren't.
func (r *Reader) Left() int {
	return len(r.all) - r.at
}

// Err: the first error.
func (r *Reader) Err() api.Errno {
	return r.err
}

// halfSums: what four bits that leave the sum do to the rest of it, by polynomial EDB88320. Four bits at once, not eight: 16 words stand here plainly, 256 wouldn't.
var halfSums = [16]uint32{
	0x00000000, 0x1db71064, 0x3b6e20c8, 0x26d930ac,
	0x76dc4190, 0x6b6b51f4, 0x4db26158, 0x5005713c,
	0xedb88320, 0xf00f9344, 0xd6d6a3e8, 0xcb61b38c,
	0x9b64c2b0, 0x86d3d2d4, 0xa00ae278, 0xbdbdf21c,
}

// Sum: CRC-32 as it is mostly used.
func Sum(b []byte) uint32 {
	s := ^uint32(0)
	for _, c := range b {
		s ^= uint32(c)
		s = halfSums[s&15] ^ s>>4
		s = halfSums[s&15] ^ s>>4
	}
	return ^s
}
