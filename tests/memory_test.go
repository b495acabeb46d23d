package tests

import (
	"bytes"
	"testing"
)

// roomy is a copy of b with spare room behind it, and the whole memory of both.
func roomy(b []byte) (arg, whole []byte) {
	whole = append(bytes.Clone(b), 0xA5, 0x5A, 0xA5, 0x5A, 0xA5, 0x5A, 0xA5, 0x5A, 0xA5, 0x5A)
	return whole[:len(b)], whole
}

// mustStay fails when a call on a copy of b, with spare room behind it, writes into either.
func mustStay(t *testing.T, b []byte, call func(arg []byte)) {
	t.Helper()
	arg, whole := roomy(b)
	before := bytes.Clone(whole)
	call(arg)
	if !bytes.Equal(whole, before) {
		t.Errorf("the argument %v was written into: %v, then %v", b, before, whole)
	}
}
