package tests

import (
	"fmt"
	"reflect"
	"slices"
	"strings"
	"testing"
	"unsafe"
)

func same(t *testing.T, what string, got any, want any) {
	t.Helper()
	if !reflect.DeepEqual(got, want) {
		t.Errorf("%s: got %#v, want %#v", what, got, want)
	}
}

// sharesText tells whether a text lies in the memory of another one.
func sharesText(part string, whole string) bool {
	if part == "" || whole == "" {
		return false
	}
	p := uintptr(unsafe.Pointer(unsafe.StringData(part)))
	w := uintptr(unsafe.Pointer(unsafe.StringData(whole)))
	return p < w+uintptr(len(whole)) && w < p+uintptr(len(part))
}

// long is a text of that many bytes in which each of the 256 bytes comes up.
func long(many int) string {
	var b strings.Builder
	for i := range many {
		b.WriteByte(byte(i*7 + i/256))
	}
	return b.String()
}

// span is the memory of a list, up to its capacity.
type span struct {
	from uintptr
	to   uintptr
}

// spansOf are the spans of all lists in a value, and of the lists within these.
func spansOf(v any) []span {
	var out []span
	var walk func(reflect.Value)
	walk = func(v reflect.Value) {
		switch v.Kind() {
		case reflect.Struct:
			for i := range v.NumField() {
				walk(v.Field(i))
			}
		case reflect.Slice:
			if size := uintptr(v.Cap()) * v.Type().Elem().Size(); size > 0 {
				out = append(out, span{from: v.Pointer(), to: v.Pointer() + size})
			}
			for i := range v.Len() {
				walk(v.Index(i))
			}
		}
	}
	walk(reflect.ValueOf(v))
	return out
}

// newMemory tells whether no two lists of an answer share any memory, and none shares any with what was handed in.
func newMemory(answer any, handed ...any) bool {
	own := spansOf(answer)
	others := slices.Clone(own)
	for _, one := range handed {
		others = append(others, spansOf(one)...)
	}
	for i, one := range own {
		for _, other := range others[i+1:] {
			if one.from < other.to && other.from < one.to {
				return false
			}
		}
	}
	return true
}

// alike tells whether two values print alike: an empty list and none are the same.
func alike(t *testing.T, what string, got any, want any) {
	t.Helper()
	if g, w := fmt.Sprintf("%+v", got), fmt.Sprintf("%+v", want); g != w {
		t.Errorf("%s: got %s, want %s", what, g, w)
	}
}

// equal tells whether two values are alike, part by part: an empty list and none are the same.
func equal(a any, b any) bool {
	return equalValues(reflect.ValueOf(a), reflect.ValueOf(b))
}

func equalValues(a reflect.Value, b reflect.Value) bool {
	switch a.Kind() {
	case reflect.Struct:
		for i := range a.NumField() {
			if !equalValues(a.Field(i), b.Field(i)) {
				return false
			}
		}
		return true
	case reflect.Slice:
		if a.Len() != b.Len() {
			return false
		}
		for i := range a.Len() {
			if !equalValues(a.Index(i), b.Index(i)) {
				return false
			}
		}
		return true
	}
	return a.Equal(b)
}

// dice draws the same numbers in every run.
type dice uint64

func (d *dice) draw(many int) int {
	*d ^= *d << 13
	*d ^= *d >> 7
	*d ^= *d << 17
	return int(*d % dice(many))
}

// cameUp asks that each of these came up ten times in what was drawn: else it was not tried.
func cameUp(t *testing.T, many map[string]int, each ...string) {
	t.Helper()
	for _, what := range each {
		if many[what] < 10 {
			t.Errorf("%s: only %d times of %v", what, many[what], many)
		}
	}
}
