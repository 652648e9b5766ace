package wire_test

import (
	"bytes"
	"encoding/binary"
	"math"
	"slices"
	"testing"

	"kintsugi/api"
	"kintsugi/wire"
)

// some is so many bytes that differ from their neighbours, none of them a nought.
func some(n int) []byte {
	b := make([]byte, n)
	for i := range b {
		b[i] = byte(i%255 + 1)
	}
	return b
}

// roomy is some bytes, with room behind their end that isn't noughts.
func roomy(n int) []byte { return some(n + 32)[:n] }

// whole is bytes with the room behind their end.
func whole(b []byte) []byte { return b[:cap(b)] }

// same says where bytes are not those that are wanted.
func same(t *testing.T, what string, got, want []byte) {
	t.Helper()
	if !bytes.Equal(got, want) {
		t.Errorf("%s: % x, want % x", what, got, want)
	}
}

// stands says where a reader does not stand as is wanted.
func stands(t *testing.T, what string, r *wire.Reader, err api.Errno, left int) {
	t.Helper()
	if r.Err() != err || r.Left() != left {
		t.Errorf("%s: %v and %d left, want %v and %d", what, r.Err(), r.Left(), err, left)
	}
}

// reading is a call that reads something of a known length.
type reading struct {
	what  string
	width int
	read  func(r *wire.Reader) any
	none  any // what it answers where there is nothing to read
}

// readings are all that read, with the numbers that they are asked for.
func readings() []reading {
	return []reading{
		{"U8", 1, func(r *wire.Reader) any { return r.U8() }, uint8(0)},
		{"U16", 2, func(r *wire.Reader) any { return r.U16() }, uint16(0)},
		{"U32", 4, func(r *wire.Reader) any { return r.U32() }, uint32(0)},
		{"U64", 8, func(r *wire.Reader) any { return r.U64() }, uint64(0)},
		{"Raw(3)", 3, func(r *wire.Reader) any { return string(r.Raw(3)) }, ""},
		{"Raw(0)", 0, func(r *wire.Reader) any { return string(r.Raw(0)) }, ""},
		{"Raw(-1)", 0, func(r *wire.Reader) any { return string(r.Raw(-1)) }, ""},
		{"Noughts(3)", 3, func(r *wire.Reader) any { r.Noughts(3); return nil }, nil},
		{"Noughts(0)", 0, func(r *wire.Reader) any { r.Noughts(0); return nil }, nil},
		{"Bad", 0, func(r *wire.Reader) any { r.Bad(); return nil }, nil},
	}
}

// puts are the calls that put bytes, each with one argument of its own.
func puts() map[string]func(b []byte) []byte {
	return map[string]func(b []byte) []byte{
		"U16":      func(b []byte) []byte { return wire.U16(b, 0xa1a2) },
		"U32":      func(b []byte) []byte { return wire.U32(b, 0xa1a2a3a4) },
		"U64":      func(b []byte) []byte { return wire.U64(b, 0xa1a2a3a4a5a6a7a8) },
		"Fill":     func(b []byte) []byte { return wire.Fill(b, len(b)+5) },
		"Fill all": func(b []byte) []byte { return wire.Fill(b, len(b)) },
		"Fill -1":  func(b []byte) []byte { return wire.Fill(b, -1) },
	}
}

// P2.1, P2.2, P2.3: the chapter's examples.
func TestExamples(t *testing.T) {
	same(t, "U16(none, 258)", wire.U16(nil, 258), []byte{2, 1})
	same(t, "U32(none, 1)", wire.U32(nil, 1), []byte{1, 0, 0, 0})
	r := wire.New([]byte{1, 2, 3})
	if got := r.U16(); got != 513 {
		t.Errorf("the first U16 is %d", got)
	}
	if got := r.U16(); got != 0 {
		t.Errorf("the second U16 is %d", got)
	}
	stands(t, "behind it", r, api.ErrShort, 0)
	r = wire.New([]byte{0, 7})
	r.Noughts(2)
	stands(t, "00 07", r, api.ErrForm, 0)
}

// P2.1: the least, the greatest and some numbers between, behind no bytes and behind some.
func TestPut(t *testing.T) {
	for _, b := range [][]byte{nil, {}, {0}, {255}, some(7), roomy(3), make([]byte, 600)} {
		for n, want := range map[uint16]string{
			0: "\x00\x00", 1: "\x01\x00", 255: "\xff\x00", 256: "\x00\x01", 0x1234: "\x34\x12",
			0x8000: "\x00\x80", math.MaxUint16: "\xff\xff",
		} {
			same(t, "U16", wire.U16(b, n), append(slices.Clone(b), want...))
		}
		for n, want := range map[uint32]string{
			0: "\x00\x00\x00\x00", 1: "\x01\x00\x00\x00", 1 << 16: "\x00\x00\x01\x00", 0x12345678: "\x78\x56\x34\x12",
			0x80000000: "\x00\x00\x00\x80", math.MaxUint32: "\xff\xff\xff\xff",
		} {
			same(t, "U32", wire.U32(b, n), append(slices.Clone(b), want...))
		}
		for n, want := range map[uint64]string{
			0: "\x00\x00\x00\x00\x00\x00\x00\x00", 1: "\x01\x00\x00\x00\x00\x00\x00\x00",
			1 << 32:            "\x00\x00\x00\x00\x01\x00\x00\x00",
			0x123456789abcdef0: "\xf0\xde\xbc\x9a\x78\x56\x34\x12",
			1 << 63:            "\x00\x00\x00\x00\x00\x00\x00\x80",
			math.MaxUint64:     "\xff\xff\xff\xff\xff\xff\xff\xff",
		} {
			same(t, "U64", wire.U64(b, n), append(slices.Clone(b), want...))
		}
	}
}

// P2.1, P2.2: each bit of each width is put where it belongs, and read from there.
func TestBits(t *testing.T) {
	for i := range 64 {
		for _, n := range []uint64{1 << i, 1<<i - 1, ^uint64(1 << i)} {
			b := binary.LittleEndian.AppendUint64(nil, n)
			same(t, "U64", wire.U64(nil, n), b)
			same(t, "U32", wire.U32(nil, uint32(n)), b[:4])
			same(t, "U16", wire.U16(nil, uint16(n)), b[:2])
			if got := wire.New(b).U64(); got != n {
				t.Errorf("U64 of % x is %d", b, got)
			}
			if got := wire.New(b).U32(); got != uint32(n) {
				t.Errorf("U32 of % x is %d", b, got)
			}
			if got := wire.New(b).U16(); got != uint16(n) {
				t.Errorf("U16 of % x is %d", b, got)
			}
			if got := wire.New(b).U8(); got != uint8(n) {
				t.Errorf("U8 of % x is %d", b, got)
			}
		}
	}
}

// P2.1: to more bytes than there are, to as many, to fewer, to below 0.
func TestFill(t *testing.T) {
	for _, c := range []struct {
		b    []byte
		n    int
		want string
	}{
		{[]byte("ab"), 4, "ab\x00\x00"},
		{[]byte("ab"), 3, "ab\x00"},
		{[]byte("ab"), 2, "ab"},
		{[]byte("ab"), 1, "ab"},
		{[]byte("ab"), 0, "ab"},
		{[]byte("ab"), -1, "ab"},
		{[]byte("ab"), math.MinInt, "ab"},
		{nil, 3, "\x00\x00\x00"},
		{[]byte{}, 3, "\x00\x00\x00"},
		{nil, 0, ""},
		{[]byte{}, 0, ""},
		{nil, -1, ""},
		{nil, math.MinInt, ""},
		{roomy(2), 5, "\x01\x02\x00\x00\x00"}, // not what stands in the room behind
		{roomy(2), 1, "\x01\x02"},
		{[]byte{0, 0}, 3, "\x00\x00\x00"},
	} {
		same(t, "Fill", wire.Fill(c.b, c.n), []byte(c.want))
	}
	same(t, "a block", wire.Fill(some(9), api.Block), append(some(9), make([]byte, api.Block-9)...))
	if got := wire.Fill(nil, 1<<20); len(got) != 1<<20 {
		t.Errorf("%d bytes", len(got))
	}
}

// P2.1, R3: what is handed in is not changed, nor the room behind its end.
func TestPutChangesNothing(t *testing.T) {
	for what, put := range puts() {
		for _, n := range []int{0, 1, 9} {
			b := roomy(n)
			put(b)
			same(t, what, whole(b)[:n+32], some(n+32))
		}
	}
}

// P2.1, R3: what is handed out is the caller's own, and so is the room behind it.
func TestPutIsOwn(t *testing.T) {
	for what, put := range puts() {
		for _, n := range []int{0, 1, 9} {
			b := roomy(n)
			want := string(put(b))
			got := put(b)
			clear(whole(got))
			same(t, what+", asked before, written over", whole(b)[:n+32], some(n+32))
			same(t, what+", asked again", put(b), []byte(want))
			kept := put(b)
			clear(whole(b))
			same(t, what+", its argument written over", kept, []byte(want))
		}
	}
}

// P2.1, R3: of two that were put behind the same bytes, neither changes the other.
func TestPutTwice(t *testing.T) {
	b := wire.U16(nil, 1)
	one, two := wire.U16(b, 2), wire.U16(b, 3)
	same(t, "the first", one, []byte{1, 0, 2, 0})
	same(t, "the second", two, []byte{1, 0, 3, 0})
	one, two = wire.Fill(b, 4), wire.U32(b, math.MaxUint32)
	same(t, "filled", one, []byte{1, 0, 0, 0})
	same(t, "put", two, []byte{1, 0, 255, 255, 255, 255})
}

// P2.2: numbers of all widths one behind another, least and greatest ones among them.
func TestRead(t *testing.T) {
	r := wire.New([]byte("\x07\x01\x02\x78\x56\x34\x12\xf0\xde\xbc\x9a\x78\x56\x34\x12\x00\x00\x00"))
	if r.Left() != 18 {
		t.Errorf("%d left at first", r.Left())
	}
	if got := r.U8(); got != 7 || r.Left() != 17 {
		t.Errorf("U8: %d, %d left", got, r.Left())
	}
	if got := r.U16(); got != 513 || r.Left() != 15 {
		t.Errorf("U16: %d, %d left", got, r.Left())
	}
	if got := r.U32(); got != 0x12345678 || r.Left() != 11 {
		t.Errorf("U32: %x, %d left", got, r.Left())
	}
	if got := r.U64(); got != 0x123456789abcdef0 || r.Left() != 3 {
		t.Errorf("U64: %x, %d left", got, r.Left())
	}
	if r.U8() != 0 || r.U16() != 0 {
		t.Error("noughts")
	}
	stands(t, "at the end", r, api.OK, 0)
	full := bytes.Repeat([]byte{255}, 15)
	r = wire.New(full)
	if r.U8() != math.MaxUint8 || r.U16() != math.MaxUint16 || r.U32() != math.MaxUint32 || r.U64() != math.MaxUint64 {
		t.Error("the greatest numbers")
	}
	stands(t, "behind the greatest numbers", r, api.OK, 0)
}

// P2.2: just as many bytes as are asked for are enough, fewer are not, at each width.
func TestShort(t *testing.T) {
	for _, c := range readings() {
		for there := range c.width {
			r := wire.New(make([]byte, there))
			if got := c.read(r); got != c.none {
				t.Errorf("%s of %d bytes: %v", c.what, there, got)
			}
			stands(t, c.what, r, api.ErrShort, 0)
			r = wire.New(some(there)) // no digits of what there is, either
			if got := c.read(r); got != c.none {
				t.Errorf("%s of %d bytes: %v", c.what, there, got)
			}
			stands(t, c.what, r, api.ErrShort, 0)
		}
		if c.what == "Bad" {
			continue
		}
		for more := range 3 {
			r := wire.New(make([]byte, c.width+more))
			c.read(r)
			stands(t, c.what, r, api.OK, more)
		}
	}
}

// P2.2: none, below none, some, just what is left, one more, the most that may be asked for.
func TestRaw(t *testing.T) {
	for _, c := range []struct {
		n    int
		want string
		err  api.Errno
		left int
	}{
		{0, "", api.OK, 4},
		{-1, "", api.OK, 4},
		{math.MinInt, "", api.OK, 4},
		{1, "\x03", api.OK, 3},
		{3, "\x03\x00\x05", api.OK, 1},
		{4, "\x03\x00\x05\x06", api.OK, 0},
		{5, "", api.ErrShort, 0},
		{math.MaxInt, "", api.ErrShort, 0},
	} {
		r := wire.New([]byte{1, 2, 3, 0, 5, 6})
		r.U16()
		same(t, "Raw", r.Raw(c.n), []byte(c.want))
		stands(t, "Raw", r, c.err, c.left)
	}
}

// P2.2: Raw and Noughts of nothing, where nothing is left.
func TestNothingOfNothing(t *testing.T) {
	for _, b := range [][]byte{nil, {}} {
		for _, n := range []int{0, -1, math.MinInt} {
			r := wire.New(b)
			if got := r.Raw(n); len(got) > 0 {
				t.Errorf("Raw(%d): % x", n, got)
			}
			r.Noughts(n)
			stands(t, "no bytes", r, api.OK, 0)
			if r.End() != api.OK {
				t.Error(r.End())
			}
		}
		r := wire.New(b)
		r.Raw(1)
		stands(t, "Raw(1)", r, api.ErrShort, 0)
		r = wire.New(b)
		r.Noughts(1)
		stands(t, "Noughts(1)", r, api.ErrShort, 0)
	}
}

// P2.2: noughts that are there, that are not, and that are too few. (Too few is the error that the chapter names first.)
func TestNoughts(t *testing.T) {
	for _, c := range []struct {
		b    string
		n    int
		err  api.Errno
		left int
	}{
		{"\x00\x00\x00", 0, api.OK, 3},
		{"\x00\x00\x00", -1, api.OK, 3},
		{"\x00\x00\x00", math.MinInt, api.OK, 3},
		{"\x00\x00\x00", 2, api.OK, 1},
		{"\x00\x00\x00", 3, api.OK, 0},
		{"\x00\x00\x00", 4, api.ErrShort, 0},
		{"\x00\x00\x00", math.MaxInt, api.ErrShort, 0},
		{"\x00\x00\x07", 2, api.OK, 1}, // the one behind them may be any
		{"\x07\x00\x00", 0, api.OK, 3},
		{"\x07\x00\x00", -1, api.OK, 3},
		{"\x07\x00\x00", 1, api.ErrForm, 0},
		{"\x07\x00\x00", 3, api.ErrForm, 0},
		{"\x00\x01\x00", 3, api.ErrForm, 0},
		{"\x00\x00\x80", 3, api.ErrForm, 0},
		{"\x00\x00\xff", 3, api.ErrForm, 0},
		{"\x07\x07\x07", 3, api.ErrForm, 0},
		{"\x07", 2, api.ErrShort, 0},
	} {
		r := wire.New([]byte(c.b))
		r.Noughts(c.n)
		stands(t, "Noughts", r, c.err, c.left)
	}
}

// P2.2: Bad where there was no error, and where there was one.
func TestBad(t *testing.T) {
	r := wire.New(some(3))
	r.U8()
	r.Bad()
	stands(t, "Bad", r, api.ErrForm, 0)
	if r.End() != api.ErrForm {
		t.Error(r.End())
	}
	r = wire.New(nil)
	r.Bad()
	stands(t, "Bad of no bytes", r, api.ErrForm, 0)
	r = wire.New(some(1))
	r.U16()
	r.Bad()
	stands(t, "Bad behind ErrShort", r, api.ErrShort, 0)
	if r.End() != api.ErrShort {
		t.Error(r.End())
	}
	r = wire.New(some(1))
	r.Bad()
	r.Bad()
	stands(t, "Bad twice", r, api.ErrForm, 0)
}

// P2.3: the end with bytes left, with none, and behind each error.
func TestEnd(t *testing.T) {
	for n := range 3 {
		r := wire.New(make([]byte, 2))
		r.Raw(n)
		stands(t, "ahead of End", r, api.OK, 2-n)
		want := api.ErrForm
		if n == 2 {
			want = api.OK
		}
		if r.End() != want || r.End() != want {
			t.Errorf("%d of 2 read: %v", n, r.End())
		}
		stands(t, "behind End", r, want, 0)
	}
	r := wire.New(nil)
	if r.End() != api.OK || r.Err() != api.OK {
		t.Error("no bytes")
	}
	r.U8() // an End that is OK ends nothing
	stands(t, "a byte behind the end", r, api.ErrShort, 0)
	if r.End() != api.ErrShort {
		t.Error(r.End())
	}
}

// P2.3: asking for the error, or for what is left, goes over nothing.
func TestAskingChangesNothing(t *testing.T) {
	r := wire.New([]byte{1, 2, 3, 4})
	for i := range 4 {
		for range 2 {
			stands(t, "so far", r, api.OK, 4-i)
		}
		if got := r.U8(); got != byte(i+1) {
			t.Errorf("byte %d is %d", i, got)
		}
	}
}

// P2.2, P2.3: behind each first error, each call reads nothing, and the error stays.
func TestFirstErrorStays(t *testing.T) {
	for _, c := range []struct {
		what string
		fail func(r *wire.Reader)
		err  api.Errno
	}{
		{"Noughts", func(r *wire.Reader) { r.Noughts(2) }, api.ErrForm},
		{"Noughts that are too few", func(r *wire.Reader) { r.Noughts(100) }, api.ErrShort},
		{"Raw", func(r *wire.Reader) { r.Raw(100) }, api.ErrShort},
		{"Bad", func(r *wire.Reader) { r.Bad() }, api.ErrForm},
		{"End", func(r *wire.Reader) { r.End() }, api.ErrForm},
		{"U64", func(r *wire.Reader) { r.Raw(13); r.U64() }, api.ErrShort},
		{"U32", func(r *wire.Reader) { r.Raw(17); r.U32() }, api.ErrShort},
		{"U16", func(r *wire.Reader) { r.Raw(19); r.U16() }, api.ErrShort},
		{"U8", func(r *wire.Reader) { r.Raw(20); r.U8() }, api.ErrShort},
	} {
		for _, then := range readings() {
			r := wire.New(some(20))
			c.fail(r)
			stands(t, c.what, r, c.err, 0)
			for range 2 {
				if got := then.read(r); got != then.none {
					t.Errorf("%s, then %s: %v", c.what, then.what, got)
				}
				stands(t, c.what+", then "+then.what, r, c.err, 0)
			}
			if r.End() != c.err {
				t.Errorf("%s, then %s: the end is %v", c.what, then.what, r.End())
			}
		}
	}
}

// P2.3, R1: of nil.
func TestNil(t *testing.T) {
	var r *wire.Reader
	for _, c := range readings() {
		if got := c.read(r); got != c.none {
			t.Errorf("%s: %v", c.what, got)
		}
		stands(t, c.what, r, api.ErrNil, 0)
	}
	if r.Raw(math.MaxInt) != nil {
		t.Error("bytes")
	}
	r.Noughts(math.MaxInt)
	if r.End() != api.ErrNil || r.Err() != api.ErrNil || r.Left() != 0 {
		t.Error(r.End(), r.Err(), r.Left())
	}
}

// P2.2, R3: New keeps a copy, and reading changes nothing of what it was made of.
func TestNewKeepsCopy(t *testing.T) {
	b := roomy(20)
	r := wire.New(b)
	clear(whole(b))
	same(t, "the first", r.Raw(2), some(20)[:2])
	clear(whole(b))
	if r.U8() != 3 || r.U16() != 0x0504 || r.U32() != 0x09080706 || r.U64() != 0x11100f0e0d0c0b0a {
		t.Error("numbers")
	}
	same(t, "the last", r.Raw(3), []byte{18, 19, 20})
	stands(t, "at the end", r, api.OK, 0)
	r.Raw(1) // not from the room behind
	stands(t, "behind the end", r, api.ErrShort, 0)

	b = roomy(20)
	r = wire.New(b)
	r.Noughts(0)
	r.U64()
	clear(whole(r.Raw(4)))
	r.Noughts(8)
	same(t, "what was handed in", whole(b)[:52], some(52))
}

// P2.2, R3: what Raw hands out is the caller's own, and so is the room behind it.
func TestRawIsOwn(t *testing.T) {
	r := wire.New(some(12))
	first := r.Raw(4)
	clear(whole(first))
	second := r.Raw(4)
	same(t, "the second", second, []byte{5, 6, 7, 8})
	same(t, "the first", first, make([]byte, 4))
	_ = append(second, 99, 99, 99, 99)
	clear(whole(r.Raw(0)))
	clear(whole(r.Raw(-1)))
	if got := r.U32(); got != 0x0c0b0a09 {
		t.Errorf("behind them: %x", got)
	}
	same(t, "the second", second, []byte{5, 6, 7, 8})
	if r.End() != api.OK {
		t.Error(r.End())
	}
}

// P2.2, R2: of two readers of the same bytes, neither knows of the other.
func TestTwo(t *testing.T) {
	b := some(4)
	one, two := wire.New(b), wire.New(b)
	one.U16()
	stands(t, "the other", two, api.OK, 4)
	one.Bad()
	stands(t, "the one", one, api.ErrForm, 0)
	if got := two.U32(); got != 0x04030201 {
		t.Errorf("the other read %x", got)
	}
	stands(t, "the other", two, api.OK, 0)
	stands(t, "a third", wire.New(b), api.OK, 4)
}

// piece is what P2.4 puts, and how it is read.
type piece struct {
	what string
	put  func(b []byte) []byte
	read func(r *wire.Reader) bool // whether it was read as it was put
}

// pieces are such, of each width, with the least and the greatest numbers.
func pieces() []piece {
	var all []piece
	for _, n := range []uint64{0, 1, 0x123456789abcdef0, math.MaxUint64} {
		all = append(all,
			piece{"U16", func(b []byte) []byte { return wire.U16(b, uint16(n)) }, func(r *wire.Reader) bool { return r.U16() == uint16(n) }},
			piece{"U32", func(b []byte) []byte { return wire.U32(b, uint32(n)) }, func(r *wire.Reader) bool { return r.U32() == uint32(n) }},
			piece{"U64", func(b []byte) []byte { return wire.U64(b, n) }, func(r *wire.Reader) bool { return r.U64() == n }},
		)
	}
	return append(all,
		piece{"Fill", func(b []byte) []byte { return wire.Fill(b, len(b)+3) }, func(r *wire.Reader) bool { r.Noughts(3); return true }},
		piece{"a byte", func(b []byte) []byte { return append(b, 200) }, func(r *wire.Reader) bool { return r.U8() == 200 }},
		piece{"bytes", func(b []byte) []byte { return append(b, 9, 0, 8) }, func(r *wire.Reader) bool { return string(r.Raw(3)) == "\x09\x00\x08" }},
	)
}

// P2.4: each three that are put behind one another are read so; a byte less is ErrShort at the last.
func TestPutAndRead(t *testing.T) {
	for _, one := range pieces() {
		for _, two := range pieces() {
			for _, three := range pieces() {
				b := three.put(two.put(one.put(nil)))
				what := one.what + ", " + two.what + ", " + three.what
				r := wire.New(b)
				if !one.read(r) || !two.read(r) || !three.read(r) || r.Left() != 0 || r.End() != api.OK {
					t.Fatalf("%s: % x, %v", what, b, r.Err())
				}
				r = wire.New(b[:len(b)-1])
				if !one.read(r) || !two.read(r) || r.Err() != api.OK {
					t.Fatalf("%s, a byte less: % x, %v", what, b, r.Err())
				}
				three.read(r)
				stands(t, what+", a byte less", r, api.ErrShort, 0)
				if r.End() != api.ErrShort {
					t.Fatalf("%s, a byte less: the end is %v", what, r.End())
				}
				r = wire.New(append(slices.Clone(b), 0))
				if !one.read(r) || !two.read(r) || !three.read(r) || r.Left() != 1 || r.End() != api.ErrForm {
					t.Fatalf("%s, a byte more: %v", what, r.Err())
				}
			}
		}
	}
}
