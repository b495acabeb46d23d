package tests

import (
	"bytes"
	"slices"
	"testing"
)

// What lies in the spare room behind an argument: no two neighbours are alike, so that a shift is seen too.
var (
	spareBytes = []byte{0xA5, 0x5A, 0xA5, 0x5A, 0xA5, 0x5A, 0xA5, 0x5A, 0xA5, 0x5A}
	sparePath  = []int64{3, 12, 3, 12, 3, 12, 3, 12, 3, 12}
)

// mustStay fails when a call on a copy of list, with spare room behind it, writes into either.
func mustStay[T comparable](t *testing.T, list, spare []T, call func(arg []T)) {
	t.Helper()
	whole := slices.Concat(list, spare)
	before := slices.Clone(whole)
	call(whole[:len(list)])
	if !slices.Equal(whole, before) {
		t.Errorf("the argument %v was written into: %v, then %v", list, before, whole)
	}
}

// mustBeNew fails when two answers of a call share memory, or one does with what a later call makes, the spare room behind them included.
func mustBeNew[T byte | int64](t *testing.T, call func() []T) {
	t.Helper()
	first := call()
	second := call()
	want := slices.Clone(first)
	spoil(first)
	if !slices.Equal(second, want) {
		t.Errorf("two answers share memory: %v, then %v", want, second)
	}
	spoil(second)
	if third := call(); !slices.Equal(third, want) {
		t.Errorf("%v behind a spoilt answer, want %v", third, want)
	}
}

func spoil[T byte | int64](list []T) {
	list = list[:cap(list)]
	for i := range list {
		list[i] = ^list[i]
	}
}

func sameTexts(a, b [][]byte) bool {
	return slices.EqualFunc(a, b, bytes.Equal)
}

func cloneTexts(list [][]byte) [][]byte {
	list = slices.Clone(list)
	for i := range list {
		list[i] = bytes.Clone(list[i])
	}
	return list
}

// spoilTexts writes into all that a list of texts holds, the spare room behind them included.
func spoilTexts(list [][]byte) {
	list = list[:cap(list)]
	for i := range list {
		spoil(list[i])
		list[i] = bytes.Clone(spareBytes)
	}
}
