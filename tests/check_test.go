package tests

import (
	"fmt"
	"reflect"
	"testing"

	"loop.example/g01379/impl"
)

// A call is one use of a function of the program, with its arguments inside it.
type call struct {
	name string
	run  func() []any // all results, the code last if there is one
}

// dice gives the same numbers in each run of the tests, so that a failure can be repeated.
type dice uint64

func (d *dice) below(n int64) int64 {
	*d = *d*6364136223846793005 + 1442695040888963407
	return int64(uint64(*d)>>33) % n
}

// shuffled returns the numbers 0 to n - 1 in some order.
func (d *dice) shuffled(n int64) []int64 {
	p := make([]int64, n)
	for i := range n {
		k := d.below(i + 1)
		p[i] = p[k]
		p[k] = i
	}
	return p
}

// round returns some round of n teams.
func (d *dice) round(n int64) impl.Round {
	var r impl.Round
	for a := range n {
		r[a] = a
	}
	p := d.shuffled(n)
	for i := int64(0); i+1 < n; i += 2 {
		if d.below(4) > 0 {
			r[p[i]], r[p[i+1]] = p[i+1], p[i]
		}
	}
	return r
}

// schedule returns some schedule of n teams with k rounds, of which some may be equal.
func (d *dice) schedule(n int64, k int64) impl.Schedule {
	s := impl.Schedule{Teams: n}
	for i := range k {
		r := d.round(n)
		if i > 0 && d.below(4) == 0 {
			r = s.Rounds[d.below(i)]
		}
		s.Rounds = append(s.Rounds, r)
	}
	return s
}

// show writes a value such that a nil list and an empty one look the same.
func show(v any) string { return write(reflect.ValueOf(v), false) }

// showAll is show with the spare capacity of all lists.
func showAll(v any) string { return write(reflect.ValueOf(v), true) }

func write(v reflect.Value, spare bool) string {
	switch v.Kind() {
	case reflect.Invalid:
		return "nil"
	case reflect.Interface:
		return write(v.Elem(), spare)
	case reflect.Slice:
		if spare {
			v = v.Slice(0, v.Cap())
		}
		out := "["
		for i := range v.Len() {
			out += write(v.Index(i), spare) + " "
		}
		return out + "]"
	case reflect.Struct:
		out := "{"
		for i := range v.NumField() {
			out += write(v.Field(i), spare) + " "
		}
		return out + "}"
	case reflect.String:
		return fmt.Sprintf("%q", v.String())
	}
	return fmt.Sprint(v.Interface())
}

// isZero reports whether a value is the zero value of its type, an empty list being one.
func isZero(v any) bool {
	return show(v) == show(reflect.Zero(reflect.TypeOf(v)).Interface())
}

// A span is the memory of a list, from its first byte to the one behind its spare capacity.
type span struct{ from, to uintptr }

// spansOf returns the spans of all lists in a value.
func spansOf(v reflect.Value) []span {
	var out []span
	switch v.Kind() {
	case reflect.Interface:
		if !v.IsNil() {
			out = spansOf(v.Elem())
		}
	case reflect.Struct:
		for i := range v.NumField() {
			out = append(out, spansOf(v.Field(i))...)
		}
	case reflect.Slice:
		size := uintptr(v.Cap()) * v.Type().Elem().Size()
		if size > 0 {
			out = append(out, span{v.Pointer(), v.Pointer() + size})
		}
		for i := range v.Len() {
			out = append(out, spansOf(v.Index(i))...)
		}
	}
	return out
}

// checkApart fails if two lists of the values share memory.
func checkApart(t *testing.T, name string, values ...any) {
	t.Helper()
	all := spansOf(reflect.ValueOf(values))[1:] // without the list of the values itself
	for i, x := range all {
		for _, y := range all[:i] {
			if x.from < y.to && y.from < x.to {
				t.Errorf("%s: two lists share memory", name)
				return
			}
		}
	}
}

// spoil overwrites all numbers in the lists of a value, and behind them in their spare capacity.
func spoil(v reflect.Value) {
	switch v.Kind() {
	case reflect.Interface:
		if !v.IsNil() {
			spoil(v.Elem())
		}
	case reflect.Struct:
		for i := range v.NumField() {
			spoil(v.Field(i))
		}
	case reflect.Array:
		for i := range v.Len() {
			spoil(v.Index(i))
		}
	case reflect.Slice:
		v = v.Slice(0, v.Cap())
		for i := range v.Len() {
			spoil(v.Index(i))
		}
	case reflect.Int64:
		if v.CanSet() {
			v.SetInt(-77)
		}
	}
}

// checkMemory runs a call on the given arguments, which it is made of, and fails if the call changes
// them or the spare capacity behind them, if a result shares memory with them or with another result,
// or if what becomes of a result changes the next one.
func checkMemory(t *testing.T, c call, args ...any) {
	t.Helper()
	before := showAll(args)
	first := c.run()
	if showAll(args) != before {
		t.Errorf("%s changes its arguments", c.name)
	}
	checkApart(t, c.name, append(append([]any{}, args...), first...)...)
	told := show(first)
	spoil(reflect.ValueOf(first))
	if showAll(args) != before {
		t.Errorf("%s: its result is a part of its arguments", c.name)
	}
	if again := show(c.run()); again != told {
		t.Errorf("%s = %s, and then %s", c.name, told, again)
	}
}

// checkResults fails if the results of a call are not the wanted ones.
func checkResults(t *testing.T, c call, want ...any) {
	t.Helper()
	if got := c.run(); show(got) != show(want) {
		t.Errorf("%s = %s, want %s", c.name, show(got), show(want))
	}
}

// checkCode fails if the last result of a call is not the code, or another one is not its zero value.
func checkCode(t *testing.T, c call, code int64) {
	t.Helper()
	got := c.run()
	last := len(got) - 1
	if got[last] != any(code) {
		t.Errorf("%s: code %v, want %d", c.name, got[last], code)
	}
	for _, x := range got[:last] {
		if !isZero(x) {
			t.Errorf("%s: %s beside the code %d", c.name, show(x), code)
		}
	}
}

// results makes the list of the results of a call of two.
func results(x any, code int64) []any { return []any{x, code} }
