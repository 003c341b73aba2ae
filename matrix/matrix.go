// Package matrix: matrices of whatever can be added and multiplied.
package matrix

// Number is what can be added and multiplied. Its zero value adds nothing.
type Number[T any] interface {
	Plus(T) T
	Times(T) T
}

// Matrix is rows of cells. A matrix of one column serves as a vector.
type Matrix[T Number[T]] struct {
	columns int
	cells   []T // row by row
}

// New answers a matrix of zero values.
func New[T Number[T]](rows, columns int) Matrix[T] {
	return Matrix[T]{columns, make([]T, rows*columns)}
}

// At answers a cell.
func (m Matrix[T]) At(row, column int) T { return m.cells[row*m.columns+column] }

// Set changes a cell.
func (m Matrix[T]) Set(row, column int, to T) { m.cells[row*m.columns+column] = to }

func (m Matrix[T]) rows() int { return len(m.cells) / m.columns }

// Plus answers the sum of two matrices of one shape.
func (m Matrix[T]) Plus(other Matrix[T]) Matrix[T] {
	sum := New[T](m.rows(), m.columns)
	for i := range sum.cells {
		sum.cells[i] = m.cells[i].Plus(other.cells[i])
	}
	return sum
}

// Times answers the product; other has as many rows as m has columns.
func (m Matrix[T]) Times(other Matrix[T]) Matrix[T] {
	product := New[T](m.rows(), other.columns)
	for row := range m.rows() {
		for column := range other.columns {
			product.Set(row, column, m.inner(row, other, column))
		}
	}
	return product
}

func (m Matrix[T]) inner(row int, other Matrix[T], column int) T {
	var sum T
	for i := range m.columns {
		sum = sum.Plus(m.At(row, i).Times(other.At(i, column)))
	}
	return sum
}

// Scaled answers each cell times a number.
func (m Matrix[T]) Scaled(by T) Matrix[T] {
	return Map(m, func(cell T) T { return cell.Times(by) })
}

// Sums answers the sum of each column.
func (m Matrix[T]) Sums() []T {
	sums := make([]T, m.columns)
	for i, cell := range m.cells {
		sums[i%m.columns] = sums[i%m.columns].Plus(cell)
	}
	return sums
}

// Map answers what a function makes of each cell.
func Map[T Number[T], U Number[U]](m Matrix[T], of func(T) U) Matrix[U] {
	made := New[U](m.rows(), m.columns)
	for i, cell := range m.cells {
		made.cells[i] = of(cell)
	}
	return made
}
