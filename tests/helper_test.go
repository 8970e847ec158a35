package tests

import (
	"reflect"
	"strings"
	"testing"
	"unsafe"
)

func same(t *testing.T, what string, got any, want any) {
	t.Helper()
	if !reflect.DeepEqual(got, want) {
		t.Errorf("%s: got %#v, want %#v", what, got, want)
	}
}

// sharesText tells whether a text lies in the memory of another one.
func sharesText(part string, whole string) bool {
	if part == "" || whole == "" {
		return false
	}
	p := uintptr(unsafe.Pointer(unsafe.StringData(part)))
	w := uintptr(unsafe.Pointer(unsafe.StringData(whole)))
	return p < w+uintptr(len(whole)) && w < p+uintptr(len(part))
}

// long is a text of that many bytes in which each of the 256 bytes comes up.
func long(many int) string {
	var b strings.Builder
	for i := range many {
		b.WriteByte(byte(i*7 + i/256))
	}
	return b.String()
}
