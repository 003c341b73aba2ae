package matrix

import (
	"slices"
	"strings"
	"testing"
)

type whole int

func (a whole) Plus(b whole) whole { return a + b }

func (a whole) Times(b whole) whole { return a * b }

// word shows in which order it was made: its sums and products don't commute.
type word string

func (a word) Plus(b word) word { return word(strings.TrimPrefix(string(a)+"+"+string(b), "+")) }

func (a word) Times(b word) word { return a + b }

func of[T Number[T]](columns int, cells ...T) Matrix[T] {
	m := New[T](len(cells)/columns, columns)
	for i, cell := range cells {
		m.Set(i/columns, i%columns, cell)
	}
	return m
}

func check[T interface {
	comparable
	Number[T]
}](t *testing.T, name string, got Matrix[T], columns int, want ...T) {
	t.Helper()
	if got.columns != columns || !slices.Equal(got.cells, want) {
		t.Errorf("%s: %v, want %v", name, got, want)
	}
}

func TestCells(t *testing.T) {
	m := New[whole](2, 3)
	check(t, "a new one", m, 3, 0, 0, 0, 0, 0, 0)
	m.Set(0, 2, 5)
	m.Set(1, 0, 7)
	check(t, "with two cells set", m, 3, 0, 0, 5, 7, 0, 0)
	if m.At(0, 2) != 5 || m.At(1, 0) != 7 || m.At(1, 2) != 0 || m.rows() != 2 {
		t.Errorf("cells: %v", m)
	}
}

func TestArithmetic(t *testing.T) {
	a := of[whole](3, 1, 2, 3, 4, 5, 6)
	check(t, "the sum", a.Plus(of[whole](3, 10, 20, 30, 40, 50, 60)), 3, 11, 22, 33, 44, 55, 66)
	check(t, "the product", a.Times(of[whole](2, 1, 10, 2, 20, 3, 30)), 2, 14, 140, 32, 320)
	check(t, "times a vector", a.Times(of[whole](1, 1, 0, 2)), 1, 7, 16)
	check(t, "scaled", a.Scaled(3), 3, 3, 6, 9, 12, 15, 18)
	if sums := a.Sums(); !slices.Equal(sums, []whole{5, 7, 9}) {
		t.Errorf("sums: %v", sums)
	}
	if sums := of[whole](1, 1, 2, 3).Sums(); !slices.Equal(sums, []whole{6}) {
		t.Errorf("a vector's sum: %v", sums)
	}
	check(t, "none is changed", a, 3, 1, 2, 3, 4, 5, 6)
}

// Rows of the left one meet columns of the right one.
func TestOrder(t *testing.T) {
	a, b := of[word](2, "a", "b", "c", "d"), of[word](2, "e", "f", "g", "h")
	check(t, "the product", a.Times(b), 2, "ae+bg", "af+bh", "ce+dg", "cf+dh")
	check(t, "the sum", a.Plus(b), 2, "a+e", "b+f", "c+g", "d+h")
	check(t, "scaled", a.Scaled("x"), 2, "ax", "bx", "cx", "dx")
}

func TestMap(t *testing.T) {
	a := of[word](2, "a", "bbb", "", "cc")
	check(t, "lengths", Map(a, func(w word) whole { return whole(len(w)) }), 2, 1, 3, 0, 2)
}

// An answer has cells of its own.
func TestOwnCells(t *testing.T) {
	a := of[whole](1, 1, 2)
	for _, m := range []Matrix[whole]{a.Plus(New[whole](2, 1)), of[whole](2, 1, 0, 0, 1).Times(a), a.Scaled(1), Map(a, func(x whole) whole { return x })} {
		check(t, "the same", m, 1, 1, 2)
		m.Set(0, 0, 9)
		check(t, "not changed", a, 1, 1, 2)
	}
}
