package wire_test

import (
	"bytes"
	"encoding/binary"
	"hash/crc32"
	"math"
	"math/bits"
	"testing"

	"braidwork/api"
	"braidwork/wire"
)

func put(n uint64) []byte {
	var w wire.Writer
	w.Num(n)
	return w.Bytes()
}

func nines(last ...byte) []byte {
	return append(bytes.Repeat([]byte{0xff}, 9), last...)
}

// edgeNumbers: all at which a bit, and so perhaps a byte, more is needed; and their neighbours.
func edgeNumbers() []uint64 {
	l := []uint64{0, 1, 300, math.MaxUint64, math.MaxUint64 - 1}
	for i := range 64 {
		n := uint64(1) << i
		l = append(l, n-1, n, n+1, n|1<<(i/2), n*0x9e3779b97f4a7c15)
	}
	return l
}

func TestWriterNumBytes(t *testing.T) {
	for _, c := range []struct {
		n    uint64
		want []byte
	}{
		{0, []byte{0}},
		{1, []byte{1}},
		{127, []byte{0x7f}},
		{128, []byte{0x80, 1}},
		{255, []byte{0xff, 1}},
		{300, []byte{0xac, 2}},
		{16383, []byte{0xff, 0x7f}},
		{16384, []byte{0x80, 0x80, 1}},
		{1<<63 - 1, []byte{0xff, 0xff, 0xff, 0xff, 0xff, 0xff, 0xff, 0xff, 0x7f}},
		{1 << 63, []byte{0x80, 0x80, 0x80, 0x80, 0x80, 0x80, 0x80, 0x80, 0x80, 1}},
		{math.MaxUint64, nines(1)},
	} {
		if got := put(c.n); !bytes.Equal(got, c.want) {
			t.Errorf("P1.1: Num(%d): % x, not % x", c.n, got, c.want)
		}
	}
}

func TestWriterNumInAsFewBytesAsCanBe(t *testing.T) {
	for _, n := range edgeNumbers() {
		got := put(n)
		if want := binary.AppendUvarint(nil, n); !bytes.Equal(got, want) {
			t.Errorf("P1.1: Num(%d): % x, not % x", n, got, want)
		}
		if want := max(1, (bits.Len64(n)+6)/7); len(got) != want {
			t.Errorf("P1.1: Num(%d) has %d bytes, not %d", n, len(got), want)
		}
	}
}

func TestWriterPutsInOrder(t *testing.T) {
	var w wire.Writer
	if len(w.Bytes()) != 0 {
		t.Error("P1.1: the zero Writer has put something")
	}
	w.Raw(nil)
	w.Raw([]byte{})
	if len(w.Bytes()) != 0 {
		t.Error("P1.1: Raw of nothing puts something")
	}
	w.Raw([]byte("ab"))
	w.Num(128)
	w.Raw([]byte{0, 0xff})
	w.Num(0)
	want := []byte{'a', 'b', 0x80, 1, 0, 0xff, 0}
	if got := w.Bytes(); !bytes.Equal(got, want) {
		t.Errorf("P1.1: % x, not % x", got, want)
	}
	if got := w.Bytes(); !bytes.Equal(got, want) {
		t.Errorf("P1.1: asked again: % x, not % x", got, want)
	}
	w.Num(5)
	if got := w.Bytes(); !bytes.Equal(got, append(want, 5)) {
		t.Errorf("P1.1: behind Bytes nothing is put: % x", got)
	}
}

func TestWritersKeepApart(t *testing.T) {
	var a, b wire.Writer
	a.Num(1)
	b.Num(2)
	if !bytes.Equal(a.Bytes(), []byte{1}) || !bytes.Equal(b.Bytes(), []byte{2}) {
		t.Error("R6: one Writer tells what another one was given")
	}
}

func TestWriterSharesNothing(t *testing.T) {
	room := []byte{1, 2, 3, 4}
	given := room[:2]
	var w wire.Writer
	w.Raw(given)
	w.Num(9)
	w.Raw([]byte{8})
	if !bytes.Equal(room, []byte{1, 2, 3, 4}) {
		t.Errorf("R5: Raw changes what it is given, or the room behind: %v", room)
	}
	given[0] = 77
	want := []byte{1, 2, 9, 8}
	if got := w.Bytes(); !bytes.Equal(got, want) {
		t.Errorf("R5: Raw keeps what it is given: %v", got)
	}
	first := w.Bytes()
	first[0] = 99
	_ = append(first, 55)
	if got := w.Bytes(); !bytes.Equal(got, want) {
		t.Errorf("R5: who changes an answer changes the Writer: %v", got)
	}
	second := w.Bytes()
	whole := second[:cap(second)]
	before := bytes.Clone(whole)
	w.Num(6)
	w.Raw([]byte{5, 4, 3, 2, 1})
	if !bytes.Equal(whole, before) {
		t.Errorf("R5: an answer changes behind the call: %v", whole)
	}
	w.Raw(w.Bytes())
	if got := w.Bytes(); !bytes.Equal(got, []byte{1, 2, 9, 8, 6, 5, 4, 3, 2, 1, 1, 2, 9, 8, 6, 5, 4, 3, 2, 1}) {
		t.Errorf("P1.1: its own bytes once more: %v", got)
	}
}

func TestReaderTakesNumbersBack(t *testing.T) {
	var w wire.Writer
	l := edgeNumbers()
	for _, n := range l {
		w.Num(n)
	}
	all := w.Bytes()
	r := wire.Read(all)
	at := 0
	for _, n := range l {
		if got := r.Num(); got != n {
			t.Fatalf("P1.2: %d, not %d", got, n)
		}
		at += len(put(n))
		if r.At() != at || r.Left() != len(all)-at || r.Err() != api.OK {
			t.Fatalf("P1.2: behind %d: At %d, Left %d, Err %d", n, r.At(), r.Left(), r.Err())
		}
	}
	if r.Left() != 0 {
		t.Errorf("P1.2: %d left", r.Left())
	}
}

// TestReaderNumErrors: each also stands behind two bytes that were taken, so that places count from the first byte.
func TestReaderNumErrors(t *testing.T) {
	for _, c := range []struct {
		b    []byte
		want api.Errno
	}{
		{nil, api.ErrShort},
		{[]byte{0x80}, api.ErrShort},
		{[]byte{0xff}, api.ErrShort},
		{[]byte{0x80, 0x80}, api.ErrShort},
		{nines(), api.ErrShort},
		{bytes.Repeat([]byte{0x80}, 9), api.ErrShort},
		{[]byte{0x80, 0}, api.ErrForm},
		{[]byte{0xff, 0}, api.ErrForm},
		{[]byte{0x80, 0, 0x80}, api.ErrForm},
		{[]byte{0x80, 0x80, 0}, api.ErrForm},
		{[]byte{0xff, 0xff, 0, 1, 1, 1}, api.ErrForm},
		{nines(0), api.ErrForm},
		{nines(2), api.ErrForm},
		{nines(3), api.ErrForm},
		{nines(0x7f), api.ErrForm},
		{nines(0x80), api.ErrForm},
		{nines(0x81), api.ErrForm},
		{nines(0x81, 0), api.ErrForm},
		{nines(0xff), api.ErrForm},
		{nines(0xff, 0xff), api.ErrForm},
	} {
		for _, ahead := range [][]byte{nil, {0xac, 2}} {
			b := append(bytes.Clone(ahead), c.b...)
			r := wire.Read(b)
			r.Raw(len(ahead))
			if n := r.Num(); n != 0 || r.Err() != c.want {
				t.Errorf("P1.2: Num of % x: %d, error %d, not %d", c.b, n, r.Err(), c.want)
			}
			if r.At() != len(ahead) || r.Left() != len(c.b) {
				t.Errorf("P1.2: what is an error takes something: % x: At %d, Left %d", c.b, r.At(), r.Left())
			}
		}
	}
}

func TestReaderNumThatMayBe(t *testing.T) {
	for _, c := range []struct {
		b    []byte
		want uint64
		size int
	}{
		{[]byte{0}, 0, 1},
		{[]byte{0, 0}, 0, 1},
		{[]byte{0x7f, 0x80}, 127, 1},
		{[]byte{0x80, 1}, 128, 2},
		{[]byte{0x80, 0x80, 1, 0}, 16384, 3},
		{[]byte{0x80, 0x80, 0x80, 0x80, 0x80, 0x80, 0x80, 0x80, 0x80, 1}, 1 << 63, 10},
		{nines(1), math.MaxUint64, 10},
		{nines(1, 0xff), math.MaxUint64, 10},
	} {
		r := wire.Read(c.b)
		if n := r.Num(); n != c.want || r.Err() != api.OK || r.At() != c.size || r.Left() != len(c.b)-c.size {
			t.Errorf("P1.2: Num of % x: %d, error %d, At %d, Left %d", c.b, n, r.Err(), r.At(), r.Left())
		}
	}
}

// TestReaderNumOfAllShortBytes: a number is taken just if it is as Writer puts it; what isn't is an error of the kind that the bytes tell.
func TestReaderNumOfAllShortBytes(t *testing.T) {
	for i := range 1 << 17 {
		b := []byte{byte(i), byte(i >> 8), byte(i>>16) * 0x80}
		for size := range 4 {
			checkNum(t, b[:size])
		}
	}
}

func checkNum(t *testing.T, b []byte) {
	t.Helper()
	r := wire.Read(b)
	n := r.Num()
	want := api.ErrShort
	for i, c := range b {
		if c == 0 && i > 0 {
			want = api.ErrForm
			break
		}
		if c < 0x80 {
			want = api.OK
			break
		}
	}
	if r.Err() != want {
		t.Fatalf("P1.2: Num of % x: error %d, not %d", b, r.Err(), want)
	}
	if want != api.OK && (n != 0 || r.At() != 0) {
		t.Fatalf("P1.2: Num of % x: %d, At %d beside an error", b, n, r.At())
	}
	if want == api.OK && !bytes.Equal(put(n), b[:r.At()]) {
		t.Fatalf("P1.2: Num of % x: %d, which is % x", b, n, put(n))
	}
}

func TestReaderRaw(t *testing.T) {
	r := wire.Read([]byte{1, 0x80, 0, 0xff, 5})
	if got := r.Raw(0); len(got) != 0 || r.Err() != api.OK || r.At() != 0 {
		t.Errorf("P1.2: Raw(0): %v, error %d, At %d", got, r.Err(), r.At())
	}
	if got := r.Raw(1); !bytes.Equal(got, []byte{1}) || r.At() != 1 || r.Left() != 4 {
		t.Errorf("P1.2: Raw(1): %v, At %d, Left %d", got, r.At(), r.Left())
	}
	if got := r.Raw(3); !bytes.Equal(got, []byte{0x80, 0, 0xff}) || r.At() != 4 || r.Left() != 1 {
		t.Errorf("P1.2: Raw(3): %v, At %d, Left %d", got, r.At(), r.Left())
	}
	if n := r.Num(); n != 5 || r.At() != 5 || r.Left() != 0 || r.Err() != api.OK {
		t.Errorf("P1.2: Num behind Raw: %d", n)
	}
	if got := r.Raw(0); len(got) != 0 || r.Err() != api.OK {
		t.Errorf("P1.2: Raw(0) at the end: %v, error %d", got, r.Err())
	}
	if got := wire.Read([]byte("abc")).Raw(3); string(got) != "abc" {
		t.Errorf("P1.2: Raw of all: %q", got)
	}
}

func TestReaderRawErrors(t *testing.T) {
	for _, n := range []int{3, 4, 5, math.MaxInt, math.MaxInt - 1, -1, -2, math.MinInt} {
		r := wire.Read([]byte{7, 8, 9})
		r.Num()
		if got := r.Raw(n); len(got) != 0 || r.Err() != api.ErrShort || r.At() != 1 || r.Left() != 2 {
			t.Errorf("P1.2: Raw(%d) of two: %v, error %d, At %d, Left %d", n, got, r.Err(), r.At(), r.Left())
		}
	}
}

func TestReaderOfNothing(t *testing.T) {
	for _, b := range [][]byte{nil, {}} {
		r := wire.Read(b)
		if r.At() != 0 || r.Left() != 0 || r.Err() != api.OK {
			t.Errorf("P1.2: At %d, Left %d, Err %d", r.At(), r.Left(), r.Err())
		}
		if got := r.Raw(0); len(got) != 0 || r.Err() != api.OK {
			t.Errorf("P1.2: Raw(0): %v, error %d", got, r.Err())
		}
		if n := r.Num(); n != 0 || r.Err() != api.ErrShort {
			t.Errorf("P1.2: Num: %d, error %d", n, r.Err())
		}
		r = wire.Read(b)
		if got := r.Raw(1); len(got) != 0 || r.Err() != api.ErrShort {
			t.Errorf("P1.2: Raw(1): %v, error %d", got, r.Err())
		}
	}
}

func TestReaderBehindItsFirstError(t *testing.T) {
	all := []byte{7, 0x80, 0, 3, 4}
	for _, c := range []struct {
		fail func(r *wire.Reader)
		want api.Errno
	}{
		{func(r *wire.Reader) { r.Num() }, api.ErrForm},
		{func(r *wire.Reader) { r.Raw(5) }, api.ErrShort},
		{func(r *wire.Reader) { r.Raw(-1) }, api.ErrShort},
	} {
		r := wire.Read(all)
		r.Num()
		c.fail(r)
		for range 3 {
			for _, n := range []int{0, 1, 4, 5, -1} {
				if got := r.Raw(n); len(got) != 0 {
					t.Errorf("P1.2: Raw(%d) behind error %d: %v", n, c.want, got)
				}
			}
			if n := r.Num(); n != 0 {
				t.Errorf("P1.2: Num behind error %d: %d", c.want, n)
			}
			if r.At() != 1 || r.Left() != 4 || r.Err() != c.want {
				t.Errorf("P1.2: behind error %d: At %d, Left %d, Err %d", c.want, r.At(), r.Left(), r.Err())
			}
		}
	}
	// Bytes that would be a number must not be taken either.
	r := wire.Read([]byte{3, 4})
	r.Raw(3)
	if n := r.Num(); n != 0 || len(r.Raw(1)) != 0 || r.At() != 0 || r.Left() != 2 || r.Err() != api.ErrShort {
		t.Errorf("P1.2: behind the first error %d is taken", n)
	}
}

func TestReaderSharesNothing(t *testing.T) {
	room := []byte{1, 2, 3, 4, 5, 6}
	given := room[:4]
	r := wire.Read(given)
	other := wire.Read(given)
	got := r.Raw(2)
	got[0] = 88
	_ = append(got, 89)
	_ = append(r.Raw(0), 90)
	if !bytes.Equal(room, []byte{1, 2, 3, 4, 5, 6}) {
		t.Errorf("R5: Raw's answer is part of what was given: %v", room)
	}
	room[2], room[3] = 66, 67
	if n := r.Num(); n != 3 {
		t.Errorf("R5: a Reader keeps what it is given, or its answer is part of it: %d", n)
	}
	if b := other.Raw(4); !bytes.Equal(b, []byte{1, 2, 3, 4}) {
		t.Errorf("R5: Readers of the same bytes are part of one another: %v", b)
	}
}

func TestSumKnown(t *testing.T) {
	for s, want := range map[string]uint32{
		"":          0,
		"a":         0xe8b7be43,
		"123456789": 0xcbf43926,
		"The quick brown fox jumps over the lazy dog": 0x414fa339,
		"\x00\x00\x00\x00": 0x2144df1c,
		"\xff\xff\xff\xff": 0xffffffff,
	} {
		if got := wire.Sum([]byte(s)); got != want {
			t.Errorf("P1.3: Sum(%q): %x, not %x", s, got, want)
		}
	}
	if wire.Sum(nil) != 0 {
		t.Error("P1.3: Sum(nil)")
	}
}

func TestSumAsTheLibrarySays(t *testing.T) {
	for i := range 1 << 16 {
		b := []byte{byte(i), byte(i >> 8)}
		if wire.Sum(b) != crc32.ChecksumIEEE(b) || wire.Sum(b[:1]) != crc32.ChecksumIEEE(b[:1]) {
			t.Fatalf("P1.3: Sum(% x): %x", b, wire.Sum(b))
		}
	}
	var long []byte
	n := uint32(1)
	for range 5000 {
		n = n*1664525 + 1013904223
		long = append(long, byte(n>>24))
		if got, want := wire.Sum(long), crc32.ChecksumIEEE(long); got != want {
			t.Fatalf("P1.3: Sum of %d bytes: %x, not %x", len(long), got, want)
		}
	}
}

func TestSumChangesNothing(t *testing.T) {
	room := []byte{1, 2, 3, 4}
	first := wire.Sum(room[:2])
	if !bytes.Equal(room, []byte{1, 2, 3, 4}) {
		t.Errorf("R5: Sum changes what it is given: %v", room)
	}
	wire.Sum([]byte("other"))
	if wire.Sum(room[:2]) != first {
		t.Error("R6: Sum hangs on what was asked ahead of it")
	}
}
