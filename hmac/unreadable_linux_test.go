package hmac_test

import (
	"runtime/debug"
	"syscall"
	"testing"

	"redwax/hmac"
)

// halfReadable returns two pages of zeros, of which the second can't be read, and the size of one.
func halfReadable(t *testing.T) ([]byte, int) {
	size := syscall.Getpagesize()
	pages, err := syscall.Mmap(-1, 0, 2*size, syscall.PROT_READ|syscall.PROT_WRITE, syscall.MAP_ANON|syscall.MAP_PRIVATE)
	if err != nil {
		t.Fatal(err)
	}
	t.Cleanup(func() { syscall.Munmap(pages) })
	if err := syscall.Mprotect(pages[size:], syscall.PROT_NONE); err != nil {
		t.Fatal(err)
	}
	return pages, size
}

// equal takes what Equal answers: the compiler may leave out a look at bytes on which nothing hangs.
var equal bool

// faults reports whether Equal looked at bytes that can't be read.
func faults(a, b []byte) (fault bool) {
	defer debug.SetPanicOnFault(debug.SetPanicOnFault(true))
	defer func() { fault = recover() != nil }()
	equal = hmac.Equal(a, b)
	return false
}

// P2.2: all bytes are examined, whatever they are: a call that stopped at a difference would not
// come upon the bytes that can't be read.
func TestEqualExaminesAllBytes(t *testing.T) {
	pages, size := halfReadable(t)
	for _, n := range []int{2, 8, 32, 64, 300} {
		for readable := 1; readable < n; readable++ {
			half := pages[size-readable : size-readable+n]
			for _, differs := range []int{0, readable / 2, readable - 1} {
				other := make([]byte, n)
				other[differs] = 1
				if !faults(half, other) || !faults(other, half) {
					t.Fatalf("%d bytes that differ at %d: none from %d on is examined", n, differs, readable)
				}
			}
		}
		if readable := pages[size-n : size]; faults(readable, make([]byte, n)) || faults(make([]byte, n), readable) {
			t.Fatalf("%d bytes: one behind them is examined", n)
		}
	}
}
