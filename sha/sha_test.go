package sha_test

import (
	"bytes"
	"crypto/sha256"
	"encoding/hex"
	"slices"
	"strings"
	"testing"

	"kintsugi/sha"
)

// edges are the lengths at which the filling, or the number of pieces, changes.
var edges = []int{0, 1, 55, 56, 63, 64, 65, 119, 120, 128}

// some is so many bytes that differ from their neighbours.
func some(n int) []byte {
	b := make([]byte, n)
	for i := range b {
		b[i] = byte(7*i + 3)
	}
	return b
}

// P1.1: the chapter's two examples.
func TestExamples(t *testing.T) {
	for in, want := range map[string]string{
		"":    "e3b0c44298fc1c149afbf4c8996fb92427ae41e4649b934ca495991b7852b855",
		"abc": "ba7816bf8f01cfea414140de5dae2223b00361a396177a9cb410ff61f20015ad",
	} {
		if got := sha.Hex(sha.Sum([]byte(in))); got != want {
			t.Errorf("Sum(%q) is %s, want %s", in, got, want)
		}
		h := sha.New()
		h.Write([]byte(in))
		if got := sha.Hex(h.Sum()); got != want {
			t.Errorf("a hash of %q is %s, want %s", in, got, want)
		}
	}
}

// P1.1: no bytes may be nil or empty (R6).
func TestNoBytes(t *testing.T) {
	if sha.Sum(nil) != sha.Sum([]byte{}) {
		t.Error("nil and empty differ")
	}
	if sha.New().Sum() != sha.Sum(nil) {
		t.Error("a new hash is not of no bytes")
	}
}

// P1.1: digests at the edges, written out.
func TestEdges(t *testing.T) {
	for n, want := range map[int]string{
		55:  "e7313d333c272e639f790978283f9eb392e843d0f29b7016828bb1daa4aac70b",
		56:  "4324d65f3c103567f5589c710bc08f8523f929a9272e3af36fc968e52abc6c27",
		63:  "81c80242132f230c3bd41b3e63bbcff16107339549214a99614ff26664625055",
		64:  "39e3d7b6b5d075d37d053ad89b24b41bef4f3c29760c84447cab3f3be1882241",
		65:  "aacca6ff74fdbb296d165a45cecfa04e5127bc008770fbbdd48006f2d2fae95e",
		119: "9ce7368e4daf32341631b492e80359dc9f594b48453cd0dd5bf0b19279cc177e",
		120: "7836b787757e95e58b3ca5aec90b1b004e8deba1e50e9675af9cabf1a13a04b5",
		128: "d2742f1f4ac6bb7ca2b239ee18402ba8b3f9f8e652d2a72973c2b9ba11c08cf6",
	} {
		if got := sha.Hex(sha.Sum(some(n))); got != want {
			t.Errorf("%d bytes: %s, want %s", n, got, want)
		}
	}
}

// P1.1: every length around several pieces, held against the library.
func TestLengths(t *testing.T) {
	for n := range 1100 {
		if b := some(n); sha.Sum(b) != sha256.Sum256(b) {
			t.Errorf("%d bytes: %s", n, sha.Hex(sha.Sum(b)))
		}
	}
}

// P1.1: each value that a byte may have, as the only one and as all of a piece.
func TestValues(t *testing.T) {
	for x := range 256 {
		for _, n := range []int{1, 64} {
			b := bytes.Repeat([]byte{byte(x)}, n)
			if sha.Sum(b) != sha256.Sum256(b) {
				t.Errorf("%d times %d: %s", n, x, sha.Hex(sha.Sum(b)))
			}
		}
	}
}

// P1.1: from 2^29 bytes on, the number of bits needs more than four bytes.
func TestManyBytes(t *testing.T) {
	if testing.Short() {
		t.Skip("half a thousand million bytes")
	}
	t.Parallel()
	h, b := sha.New(), make([]byte, 1<<20)
	for range 1 << 9 {
		h.Write(b)
	}
	const want = "9acca8e8c22201155389f65abbf6bc9723edc7384ead80503839f49dcc56d767"
	if got := sha.Hex(h.Sum()); got != want {
		t.Errorf("2^29 noughts: %s, want %s", got, want)
	}
}

// P1.1: 64 digits, small letters, noughts at the front too.
func TestHex(t *testing.T) {
	for _, c := range []struct {
		d    [32]byte
		want string
	}{
		{[32]byte{}, strings.Repeat("0", 64)},
		{[32]byte{0x01, 0x23, 0x45, 0x67, 0x89, 0xab, 0xcd, 0xef, 31: 0xfe}, "0123456789abcdef" + strings.Repeat("0", 46) + "fe"},
		{[32]byte{0: 0x0f, 31: 0xf0}, "0f" + strings.Repeat("0", 60) + "f0"},
	} {
		if got := sha.Hex(c.d); got != c.want {
			t.Errorf("%v: %s, want %s", c.d, got, c.want)
		}
	}
	for x := range 256 {
		d := sha.Sum([]byte{byte(x)})
		if got := sha.Hex(d); got != hex.EncodeToString(d[:]) {
			t.Errorf("%v: %s", d, got)
		}
	}
}

// P1.2: bytes are put behind those that there are, and all count.
func TestWrite(t *testing.T) {
	h := sha.New()
	var all []byte
	for i := range 300 {
		b := some(i % 71)
		h.Write(b)
		all = append(all, b...)
		if h.Sum() != sha256.Sum256(all) {
			t.Fatalf("behind write %d, of %d bytes in all: %s", i, len(all), sha.Hex(h.Sum()))
		}
	}
}

// P1.2: no bytes change nothing, wherever they are put.
func TestWriteNothing(t *testing.T) {
	for _, n := range edges {
		h := sha.New()
		h.Write(nil)
		h.Write(some(n))
		h.Write(nil)
		h.Write([]byte{})
		if h.Sum() != sha256.Sum256(some(n)) {
			t.Errorf("%d bytes", n)
		}
	}
}

// P1.2: of nil.
func TestNil(t *testing.T) {
	var h *sha.Hash
	h.Write([]byte("abc"))
	h.Write(nil)
	if h.Sum() != sha256.Sum256(nil) {
		t.Errorf("nil: %s", sha.Hex(h.Sum()))
	}
}

// P1.2, R2: hashes know nothing of each other.
func TestTwo(t *testing.T) {
	one, two := sha.New(), sha.New()
	for _, x := range some(200) {
		one.Write([]byte{x})
		two.Write([]byte{x, x})
	}
	sha.Sum(some(99))
	if one.Sum() != sha256.Sum256(some(200)) {
		t.Error("the first")
	}
	var doubled []byte
	for _, x := range some(200) {
		doubled = append(doubled, x, x)
	}
	if two.Sum() != sha256.Sum256(doubled) {
		t.Error("the second")
	}
	if sha.New().Sum() != sha256.Sum256(nil) {
		t.Error("a new one behind them")
	}
}

// P1.3: cut into two, the digest asked for at the cut, or not.
func TestCutInTwo(t *testing.T) {
	for _, n := range edges {
		b := some(n)
		for at := range n + 1 {
			for _, ask := range []bool{false, true} {
				h := sha.New()
				h.Write(b[:at])
				if ask && h.Sum() != sha256.Sum256(b[:at]) {
					t.Errorf("%d of %d bytes", at, n)
				}
				h.Write(b[at:])
				if h.Sum() != sha256.Sum256(b) {
					t.Errorf("%d bytes cut at %d, asked %v", n, at, ask)
				}
			}
		}
	}
}

// P1.3: cut into three at and beside the edges.
func TestCutInThree(t *testing.T) {
	b := some(300)
	want := sha256.Sum256(b)
	for _, first := range edges {
		for _, second := range edges {
			h := sha.New()
			h.Write(b[:first])
			h.Write(b[first : first+second])
			h.Write(b[first+second:])
			if h.Sum() != want {
				t.Errorf("cut behind %d and %d more", first, second)
			}
		}
	}
}

// P1.3: one byte at a time, the digest asked for behind each, twice.
func TestByteByByte(t *testing.T) {
	h, b := sha.New(), some(260)
	for i := range b {
		h.Write(b[i : i+1])
		want := sha256.Sum256(b[:i+1])
		if h.Sum() != want || h.Sum() != want {
			t.Errorf("%d bytes", i+1)
		}
	}
}

// P1.3: whatever the length of the pieces, the digest is one.
func TestEvenPieces(t *testing.T) {
	b := some(1000)
	want := sha256.Sum256(b)
	for n := 1; n <= 200; n++ {
		h := sha.New()
		for piece := range slices.Chunk(b, n) {
			h.Write(piece)
		}
		if h.Sum() != want {
			t.Errorf("pieces of %d bytes", n)
		}
	}
}

// R3: what is handed in is not changed, nor the room behind its end.
func TestNotChanged(t *testing.T) {
	for _, n := range edges {
		room := some(n + 200)
		sha.Sum(room[:n])
		h := sha.New()
		h.Write(room[:n])
		h.Sum()
		h.Write(room[:n])
		h.Sum()
		if !bytes.Equal(room, some(n+200)) {
			t.Errorf("%d bytes", n)
		}
	}
}

// R3: what is handed in is not kept: the caller may write into it.
func TestNotKept(t *testing.T) {
	for _, n := range edges {
		h, b := sha.New(), some(n)
		h.Write(b)
		clear(b)
		if h.Sum() != sha256.Sum256(some(n)) {
			t.Errorf("%d bytes, written over", n)
		}
		h.Write(b)
		for i := range b {
			b[i] = 255
		}
		if h.Sum() != sha256.Sum256(append(some(n), make([]byte, n)...)) {
			t.Errorf("%d bytes and %d noughts, written over", n, n)
		}
	}
}

// R3: what is handed out may be written into.
func TestHandedOut(t *testing.T) {
	h := sha.New()
	h.Write(some(70))
	d := h.Sum()
	clear(d[:])
	if h.Sum() != sha256.Sum256(some(70)) {
		t.Error("the digest of a hash")
	}
	d = sha.Sum(some(70))
	clear(d[:])
	if sha.Sum(some(70)) != sha256.Sum256(some(70)) {
		t.Error("the digest of bytes")
	}
}
