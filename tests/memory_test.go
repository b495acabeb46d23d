package tests

import (
	"bytes"
	"slices"
	"testing"
)

// What lies in the spare room behind an argument: no two neighbours are alike, so that a shift is seen too.
var (
	spareBytes = []byte{0xA5, 0x5A, 0xA5, 0x5A, 0xA5, 0x5A, 0xA5, 0x5A, 0xA5, 0x5A}
	sparePath  = []int64{3, 12, 3, 12, 3, 12, 3, 12, 3, 12}
)

// mustStay fails when a call on a copy of list, with spare room behind it, writes into either.
func mustStay[T comparable](t *testing.T, list, spare []T, call func(arg []T)) {
	t.Helper()
	whole := slices.Concat(list, spare)
	before := slices.Clone(whole)
	call(whole[:len(list)])
	if !slices.Equal(whole, before) {
		t.Errorf("the argument %v was written into: %v, then %v", list, before, whole)
	}
}

// mustBeNew fails when two answers of a call share memory, or one does with what a later call makes, the spare room behind them included.
func mustBeNew[T byte | int64](t *testing.T, call func() []T) {
	t.Helper()
	first := call()
	second := call()
	want := slices.Clone(first)
	spoil(first)
	if !slices.Equal(second, want) {
		t.Errorf("two answers share memory: %v, then %v", want, second)
	}
	spoil(second)
	if third := call(); !slices.Equal(third, want) {
		t.Errorf("%v behind a spoilt answer, want %v", third, want)
	}
}

func spoil[T byte | int64](list []T) {
	list = list[:cap(list)]
	for i := range list {
		list[i] = ^list[i]
	}
}

// holding is how a list is looked at whose items hold bytes: cells, changes, and texts, which are bytes themselves.
type holding[T any] struct {
	bytes func(item *T) *[]byte
	same  func(a, b T) bool
}

var texts = holding[[]byte]{bytes: func(b *[]byte) *[]byte { return b }, same: bytes.Equal}

func sameTexts(a, b [][]byte) bool      { return texts.alike(a, b) }
func cloneTexts(list [][]byte) [][]byte { return texts.clone(list) }
func spoilTexts(list [][]byte)          { texts.spoil(list) }

func (h holding[T]) alike(a, b []T) bool {
	return slices.EqualFunc(a, b, h.same)
}

func (h holding[T]) clone(list []T) []T {
	list = slices.Clone(list)
	for i := range list {
		held := h.bytes(&list[i])
		*held = bytes.Clone(*held)
	}
	return list
}

// spoil writes into all that a list holds, the spare room behind it and behind each of its bytes included.
func (h holding[T]) spoil(list []T) {
	list = list[:cap(list)]
	for i := range list {
		spoil(*h.bytes(&list[i]))
		var other T
		*h.bytes(&other) = bytes.Clone(spareBytes)
		list[i] = other
	}
}

// mustLeave fails when a call on a copy of the list, with what lies behind it in its spare room, and with spare room behind each of its bytes, writes into any of it.
func (h holding[T]) mustLeave(t *testing.T, list, behind []T, call func(arg []T)) {
	t.Helper()
	whole := slices.Concat(list, behind)
	for i := range whole {
		held := h.bytes(&whole[i])
		*held = slices.Concat(*held, spareBytes)
	}
	want := h.clone(whole)
	arg := slices.Clone(whole)
	for i := range arg {
		held := h.bytes(&arg[i])
		*held = (*held)[:len(*held)-len(spareBytes)]
	}
	before := slices.Clone(arg)
	call(arg[:len(list)])
	if !h.alike(whole, want) || !h.alike(arg, before) {
		t.Fatalf("the list %v, or the room behind it, was written into: %v, then %v", list, want, whole)
	}
	for i := range before { // there is spare room behind the bytes of each, so there is a first one
		now, was := *h.bytes(&arg[i]), *h.bytes(&before[i])
		if cap(now) != cap(was) || &now[:1][0] != &was[:1][0] {
			t.Fatalf("the bytes of the item %d of %v are other ones", i, list)
		}
	}
}

// mustBeNew fails when two answers of a call share memory, when the bytes of two items of one answer do, or when one does with what a later call makes, spare room included.
func (h holding[T]) mustBeNew(t *testing.T, call func() []T) {
	t.Helper()
	first, second := call(), call()
	want := h.clone(first)
	h.spoil(first)
	if !h.alike(second, want) {
		t.Fatalf("two answers share memory: %v, then %v", want, second)
	}
	for i := range second {
		held := *h.bytes(&second[i])
		spoil(held)
		if !h.alike(second[:i], want[:i]) || !h.alike(second[i+1:], want[i+1:]) {
			t.Fatalf("the bytes of the item %d of %v share memory with those of another one", i, want)
		}
		spoil(held) // and they are as they were
	}
	h.spoil(second)
	if third := call(); !h.alike(third, want) {
		t.Fatalf("%v behind a spoilt answer, want %v", third, want)
	}
}
