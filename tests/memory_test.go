package tests

import (
	"reflect"
	"testing"
)

// span is the memory of one list, with the room behind it.
type span struct {
	from, to uintptr
}

// spans tells the memory of each list in x, and in the lists of it.
func spans(x any) []span {
	var out []span
	var look func(v reflect.Value)
	look = func(v reflect.Value) {
		switch v.Kind() {
		case reflect.Slice:
			if size := uintptr(v.Cap()) * v.Type().Elem().Size(); size > 0 {
				out = append(out, span{v.Pointer(), v.Pointer() + size})
			}
			for i := range v.Len() {
				look(v.Index(i))
			}
		case reflect.Struct:
			for i := range v.NumField() {
				look(v.Field(i))
			}
		}
	}
	look(reflect.ValueOf(x))
	return out
}

// newMemory fails where two lists of the answers share memory, or one of them and a list of the arguments.
func newMemory(t *testing.T, what string, answers []any, arguments []any) {
	t.Helper()
	var mine, given []span
	for _, x := range answers {
		mine = append(mine, spans(x)...)
	}
	for _, x := range arguments {
		given = append(given, spans(x)...)
	}
	for i, a := range mine {
		for _, b := range append(append([]span(nil), mine[:i]...), given...) {
			if a.from < b.to && b.from < a.to {
				t.Errorf("%s: an answer shares memory", what)
				return
			}
		}
	}
}

// wholly copies x with the room behind each list, as far as it goes, as part of the list.
func wholly(x any) any {
	var widen func(v reflect.Value) reflect.Value
	widen = func(v reflect.Value) reflect.Value {
		switch v.Kind() {
		case reflect.Slice:
			all := v.Slice(0, v.Cap())
			out := reflect.MakeSlice(v.Type(), all.Len(), all.Len())
			for i := range all.Len() {
				out.Index(i).Set(widen(all.Index(i)))
			}
			return out
		case reflect.Struct:
			out := reflect.New(v.Type()).Elem()
			for i := range v.NumField() {
				out.Field(i).Set(widen(v.Field(i)))
			}
			return out
		}
		return v
	}
	return widen(reflect.ValueOf(x)).Interface()
}

// stays calls, and fails where x, or the room behind one of its lists, is another one then.
func stays(t *testing.T, what string, x any, call func()) {
	t.Helper()
	was := wholly(x)
	call()
	if !reflect.DeepEqual(was, wholly(x)) {
		t.Errorf("%s: an argument, or the room behind it, was written", what)
	}
}

// roomyOf copies a list with marked room behind it.
func roomyOf[T any](l []T, marked T) []T {
	out := make([]T, 0, len(l)+3)
	out = append(out, l...)
	room := out[len(l):cap(out)]
	for i := range room {
		room[i] = marked
	}
	return out
}

// alike tells whether two answers are the same, an empty list and nil being so.
func alike(a any, b any) bool {
	return reflect.DeepEqual(plain(reflect.ValueOf(a)).Interface(), plain(reflect.ValueOf(b)).Interface())
}

// plain copies v with nil for each empty list.
func plain(v reflect.Value) reflect.Value {
	switch v.Kind() {
	case reflect.Slice:
		out := reflect.Zero(v.Type())
		for i := range v.Len() {
			out = reflect.Append(out, plain(v.Index(i)))
		}
		return out
	case reflect.Struct:
		out := reflect.New(v.Type()).Elem()
		for i := range v.NumField() {
			out.Field(i).Set(plain(v.Field(i)))
		}
		return out
	}
	return v
}
