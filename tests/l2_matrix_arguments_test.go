package tests

import (
	"math"
	"slices"
	"testing"

	"loop.example/g00294/impl"
)

func invalidMatrices() []impl.Matrix {
	empty := make([]byte, 0, 4)
	return []impl.Matrix{
		{},
		{Rows: [][]byte{}},
		{Rows: make([][]byte, 0, 3)},
		matrixOf(nil),
		matrixOf(empty),
		matrixOf(empty, empty),
		matrixOf(nil, []byte{1}),
		matrixOf([]byte{1}, nil),
		matrixOf([]byte{1, 2}, []byte{3}),
		matrixOf([]byte{1}, []byte{2, 3}),
		matrixOf([]byte{1, 2, 3}, []byte{4, 5, 6}, []byte{7, 8}),
		matrixOf([]byte{1, 0, 0}, []byte{0, 1}, []byte{0, 0, 1}),
		matrixWith(17, 1, func(i, j int) byte { return 1 }),
		matrixWith(1, 17, func(i, j int) byte { return 1 }),
		unitMatrix(17),
		matrixWith(17, 16, func(i, j int) byte { return 1 }),
		matrixWith(16, 17, func(i, j int) byte { return 1 }),
		unitMatrix(300),
		{Rows: make([][]byte, 17)},
	}
}

func TestGoodMatrix(t *testing.T) {
	for _, m := range invalidMatrices() {
		if impl.GoodMatrix(m) {
			t.Errorf("GoodMatrix of %v is true", m)
		}
	}
	for rows := 1; rows <= impl.MaxSide; rows++ {
		for columns := 1; columns <= impl.MaxSide; columns++ {
			m := matrixWith(rows, columns, func(i, j int) byte { return 0 })
			if !impl.GoodMatrix(m) {
				t.Errorf("GoodMatrix of %d rows and %d columns is false", rows, columns)
			}
		}
	}
}

func requireNoMatrix(t *testing.T, name string, m impl.Matrix, ok bool) {
	t.Helper()
	if len(m.Rows) != 0 || ok {
		t.Errorf("%s: %v, %v", name, m, ok)
	}
}

func TestInvalidMatricesFail(t *testing.T) {
	good := unitMatrix(3)
	for _, m := range invalidMatrices() {
		if got, ok := impl.RankOf(m); got != 0 || ok {
			t.Errorf("RankOf %v: %d, %v", m, got, ok)
		}
		for _, v := range [][]byte{nil, {1}, {1, 2}, {1, 2, 3}, make([]byte, len(m.Rows))} {
			if got, ok := impl.Solve(m, v); len(got) != 0 || ok {
				t.Errorf("Solve with %v: %v, %v", m, got, ok)
			}
		}
		for _, call := range []func() (impl.Matrix, bool){
			func() (impl.Matrix, bool) { return impl.InverseOf(m) },
			func() (impl.Matrix, bool) { return impl.Transposed(m) },
			func() (impl.Matrix, bool) { return impl.PartOf(m, []int{0}, []int{0}) },
			func() (impl.Matrix, bool) { return impl.PartOf(m, nil, nil) },
			func() (impl.Matrix, bool) { return impl.Product(m, m) },
			func() (impl.Matrix, bool) { return impl.Product(m, good) },
			func() (impl.Matrix, bool) { return impl.Product(good, m) },
			func() (impl.Matrix, bool) { return impl.Product(matrixOf(make([]byte, len(m.Rows))), m) },
		} {
			got, ok := call()
			requireNoMatrix(t, "a call with an invalid matrix", got, ok)
		}
	}
}

func TestProductOfUnfittingSizesFails(t *testing.T) {
	sides := []int{1, 2, 3, 15, 16}
	for _, inner := range sides {
		for _, other := range sides {
			for _, outer := range sides {
				a := matrixWith(outer, inner, func(i, j int) byte { return 1 })
				b := matrixWith(other, outer, func(i, j int) byte { return 1 })
				got, ok := impl.Product(a, b)
				if inner != other {
					requireNoMatrix(t, "a product of unfitting sizes", got, ok)
				} else if !ok {
					t.Errorf("Product with %d inner elements fails", inner)
				}
			}
		}
	}
}

func TestUnsquareAndSingularMatricesFail(t *testing.T) {
	for _, m := range []impl.Matrix{
		matrixOf([]byte{1, 0}),
		matrixOf([]byte{1}, []byte{0}),
		matrixOf([]byte{1, 0, 0}, []byte{0, 1, 0}),
		matrixOf([]byte{1, 0}, []byte{0, 1}, []byte{0, 0}),
		matrixOf([]byte{0}),
		matrixOf([]byte{1, 2}, []byte{2, 4}),
		matrixOf([]byte{0, 0}, []byte{1, 1}),
		matrixOf([]byte{0, 1}, []byte{0, 1}),
		matrixOf([]byte{1, 2, 3}, []byte{4, 5, 6}, []byte{5, 7, 5}),
		matrixWith(16, 16, func(i, j int) byte { return 0 }),
		matrixOfRank(16, 16, 15, 2),
		matrixOfRank(15, 16, 15, 2),
		matrixOfRank(16, 15, 15, 2),
	} {
		got, ok := impl.InverseOf(m)
		requireNoMatrix(t, "InverseOf", got, ok)
		for _, n := range []int{len(m.Rows), len(m.Rows[0])} {
			for _, step := range []byte{0, 3} {
				if got, ok := impl.Solve(m, steppedBytes(n, 0, step)); len(got) != 0 || ok {
					t.Errorf("Solve with %v: %v, %v", m, got, ok)
				}
			}
		}
	}
}

func TestSolveWithAnotherLengthFails(t *testing.T) {
	for _, n := range []int{1, 2, 15, 16} {
		for _, length := range []int{0, 1, 2, 3, 14, 15, 16, 17, 80, 81} {
			got, ok := impl.Solve(unitMatrix(n), steppedBytes(length, 9, 1))
			if length == n && (!ok || !slices.Equal(got, steppedBytes(n, 9, 1))) {
				t.Errorf("Solve with Identity of %d rows: %v, %v", n, got, ok)
			}
			if length != n && (ok || len(got) != 0) {
				t.Errorf("Solve with %d rows and %d bytes: %v, %v", n, length, got, ok)
			}
		}
	}
	if got, ok := impl.Solve(unitMatrix(2), nil); len(got) != 0 || ok {
		t.Errorf("Solve without a vector: %v, %v", got, ok)
	}
}

func TestPartOfInvalidLists(t *testing.T) {
	for _, sides := range [][2]int{{3, 4}, {4, 3}, {1, 1}, {16, 16}} {
		m := matrixWith(sides[0], sides[1], func(i, j int) byte { return byte(i + j) })
		for place, size := range sides {
			for _, list := range [][]int{
				nil, {}, {-1}, {-1, 0}, {size}, {size - 1, size}, {0, size}, {0, 0}, {0, 0, 1},
				{1, 0}, {2, 1, 0}, {0, 2, 1}, {size - 1, 0}, {size - 1, size - 1},
				{math.MinInt}, {math.MinInt, 0}, {math.MaxInt}, {0, math.MaxInt}, {1 << 32}, {-1 << 32}, {0, 1 << 32},
				make([]int, 100),
			} {
				rows, columns := list, []int{0}
				if place == 1 {
					rows, columns = columns, rows
				}
				got, ok := impl.PartOf(m, rows, columns)
				requireNoMatrix(t, "PartOf", got, ok)
			}
		}
	}
	got, ok := impl.PartOf(unitMatrix(2), nil, nil)
	requireNoMatrix(t, "PartOf without lists", got, ok)
}

func TestSidesOfMadeMatrices(t *testing.T) {
	sides := []int{math.MinInt, -16, -1, 0, 1, 2, 15, 16, 17, 256, 257, 1 << 32, 1<<32 + 1, math.MaxInt}
	good := func(n int) bool { return n >= 1 && n <= 16 }
	for _, rows := range sides {
		got, ok := impl.Identity(rows)
		requireSides(t, "Identity", got, ok, good(rows), rows, rows)
		for _, columns := range sides {
			got, ok := impl.Vandermonde(rows, columns)
			requireSides(t, "Vandermonde", got, ok, good(rows) && good(columns), rows, columns)
			got, ok = impl.Cauchy(rows, columns)
			requireSides(t, "Cauchy", got, ok, good(rows) && good(columns), rows, columns)
		}
	}
}

func requireSides(t *testing.T, name string, m impl.Matrix, ok, want bool, rows, columns int) {
	t.Helper()
	if !want {
		requireNoMatrix(t, name, m, ok)
		return
	}
	if !ok || len(m.Rows) != rows || len(m.Rows[0]) != columns || !impl.GoodMatrix(m) {
		t.Errorf("%s with %d rows and %d columns: %v, %v", name, rows, columns, m, ok)
	}
}

// roomyMatrix has spare memory behind its rows and behind each row.
type roomyMatrix struct {
	matrix impl.Matrix
	outer  [][]byte
	inner  [][]byte
}

func newRoomyMatrix(m impl.Matrix) roomyMatrix {
	roomy := roomyMatrix{}
	for _, row := range m.Rows {
		memory := append(slices.Clone(row), spare, spare, spare)
		roomy.inner = append(roomy.inner, memory)
		roomy.outer = append(roomy.outer, memory[:len(row)])
	}
	roomy.outer = append(roomy.outer, []byte{spare})
	roomy.inner = append(roomy.inner, roomy.outer[len(m.Rows)])
	roomy.matrix.Rows = roomy.outer[:len(m.Rows)]
	return roomy
}

// state is all that a call could modify: the bytes, and which row lies where.
func (r roomyMatrix) state() (bytes [][]byte, places []*byte) {
	for _, memory := range r.inner {
		bytes = append(bytes, slices.Clone(memory))
	}
	for _, row := range r.outer {
		var place *byte
		if cap(row) > 0 {
			place = &row[:1][0]
		}
		places = append(places, place)
		bytes = append(bytes, []byte{byte(len(row))})
	}
	return bytes, places
}

func (r roomyMatrix) requireUnmodified(t *testing.T, call func()) {
	t.Helper()
	bytes, places := r.state()
	call()
	bytesAfter, placesAfter := r.state()
	if !slices.EqualFunc(bytes, bytesAfter, slices.Equal) || !slices.Equal(places, placesAfter) {
		t.Errorf("the matrix %v was modified", r.matrix)
	}
}

func testMatrices() []impl.Matrix {
	return append(invalidMatrices(),
		matrixOf([]byte{7}),
		matrixOf([]byte{0, 2}, []byte{3, 0}),
		matrixOf([]byte{0, 0, 5}, []byte{0, 4, 1}, []byte{9, 1, 1}),
		matrixOf([]byte{1, 2}, []byte{2, 4}),
		matrixOfRank(3, 5, 2, 1),
		matrixOfRank(5, 3, 3, 1),
		matrixOfRank(16, 16, 16, 1),
		unitMatrix(16),
	)
}

func TestMatrixArgumentsAreNotModified(t *testing.T) {
	for _, m := range testMatrices() {
		a := newRoomyMatrix(m)
		v, memory := vectorWithSpare(len(m.Rows), 3)
		before := slices.Clone(memory)
		list := []int{0, 1, 2, 99, 99}
		a.requireUnmodified(t, func() {
			impl.GoodMatrix(a.matrix)
			impl.InverseOf(a.matrix)
			impl.RankOf(a.matrix)
			impl.Transposed(a.matrix)
			impl.PartOf(a.matrix, list[:2], list[:1])
			impl.PartOf(a.matrix, list[:1], list[:3])
			impl.Solve(a.matrix, v)
			impl.Product(a.matrix, a.matrix)
		})
		if !slices.Equal(memory, before) || !slices.Equal(list, []int{0, 1, 2, 99, 99}) {
			t.Errorf("with %v, a vector or a list was modified", m)
		}
		for _, other := range testMatrices() {
			b := newRoomyMatrix(other)
			a.requireUnmodified(t, func() {
				b.requireUnmodified(t, func() { impl.Product(a.matrix, b.matrix) })
			})
		}
	}
}

// Rows of an argument may be one and the same list.
func TestRowsThatShareMemory(t *testing.T) {
	row := []byte{1, 2, 3}
	m := matrixOf(row, row, row)
	apart := matrixOf(slices.Clone(row), slices.Clone(row), slices.Clone(row))
	requireRank(t, m, 1)
	if got, ok := impl.Product(m, m); !ok || !sameMatrix(got, longMatrixProduct(apart, apart)) {
		t.Errorf("Product: %v, %v", got, ok)
	}
	memory := []byte{1, 0, 1, 0}
	overlapping := matrixOf(memory[0:3], memory[1:4], memory[0:3])
	requireRank(t, overlapping, 2)
	turnedRound := matrixOf(memory[0:2], memory[1:3])
	requireRank(t, turnedRound, 2)
	if !slices.Equal(row, []byte{1, 2, 3}) || !slices.Equal(memory, []byte{1, 0, 1, 0}) {
		t.Errorf("the rows were modified: %v, %v", row, memory)
	}
}

func TestSpareRowsAreNotRead(t *testing.T) {
	for _, m := range testMatrices() {
		roomy := newRoomyMatrix(m).matrix
		if impl.GoodMatrix(roomy) != impl.GoodMatrix(m) {
			t.Errorf("GoodMatrix of %v depends on its spare memory", m)
		}
		rank, ok := impl.RankOf(m)
		if got, gotOk := impl.RankOf(roomy); got != rank || gotOk != ok {
			t.Errorf("RankOf %v depends on its spare memory", m)
		}
		for _, call := range []func(impl.Matrix) (impl.Matrix, bool){
			impl.InverseOf,
			impl.Transposed,
			func(m impl.Matrix) (impl.Matrix, bool) { return impl.Product(m, m) },
			func(m impl.Matrix) (impl.Matrix, bool) { return impl.PartOf(m, []int{0}, []int{0}) },
			func(m impl.Matrix) (impl.Matrix, bool) { return impl.PartOf(m, []int{len(m.Rows)}, []int{0}) },
		} {
			want, ok := call(m)
			if got, gotOk := call(roomy); gotOk != ok || !sameMatrix(got, want) {
				t.Errorf("a call with %v depends on its spare memory: %v, %v", m, got, want)
			}
		}
	}
}

// overwriteMatrix writes to all that a result gives access to, and replaces its rows.
func overwriteMatrix(m impl.Matrix) {
	for _, row := range m.Rows {
		overwriteAll(row)
	}
	rows := m.Rows[:cap(m.Rows)]
	for i := range rows {
		rows[i] = []byte{spare}
	}
}

func requireOwnRows(t *testing.T, m impl.Matrix) {
	t.Helper()
	for i, row := range m.Rows {
		others := impl.Matrix{}
		for k, other := range m.Rows {
			if k != i {
				others.Rows = append(others.Rows, slices.Clone(other))
			}
		}
		overwriteAll(row)
		if !sameMatrix(others, impl.Matrix{Rows: slices.Delete(slices.Clone(m.Rows), i, i+1)}) {
			t.Errorf("row %d of a result shares memory with another row", i)
		}
		overwriteAll(row)
	}
}

func requireUnsharedMatrix(t *testing.T, call func() (impl.Matrix, bool), arguments ...roomyMatrix) {
	t.Helper()
	first, _ := call()
	second, _ := call()
	kept := matrixWith(len(second.Rows), len(second.Rows[0]), func(i, j int) byte { return second.Rows[i][j] })
	write := func() {
		requireOwnRows(t, first)
		overwriteMatrix(first)
		if !sameMatrix(second, kept) {
			t.Error("the results of two calls share memory")
		}
		overwriteMatrix(second)
	}
	for _, argument := range arguments {
		inner := write
		write = func() { argument.requireUnmodified(t, inner) }
	}
	write()
	if again, ok := call(); !ok || !sameMatrix(again, kept) {
		t.Error("writing to a result changed the next one")
	}
}

// The identity is that matrix for which an argument could be handed back as it is.
func TestMatrixResultsShareNoMemory(t *testing.T) {
	for _, m := range []impl.Matrix{unitMatrix(1), unitMatrix(4), unitMatrix(16), matrixOfRank(5, 5, 5, 1), matrixOfRank(16, 16, 16, 2)} {
		n := len(m.Rows)
		a, b := newRoomyMatrix(m), newRoomyMatrix(unitMatrix(n))
		all := make([]int, n)
		for i := range all {
			all[i] = i
		}
		for _, call := range []func() (impl.Matrix, bool){
			func() (impl.Matrix, bool) { return impl.InverseOf(a.matrix) },
			func() (impl.Matrix, bool) { return impl.Transposed(a.matrix) },
			func() (impl.Matrix, bool) { return impl.PartOf(a.matrix, all, all) },
			func() (impl.Matrix, bool) { return impl.Product(a.matrix, b.matrix) },
			func() (impl.Matrix, bool) { return impl.Product(b.matrix, a.matrix) },
			func() (impl.Matrix, bool) { return impl.Vandermonde(n, n) },
			func() (impl.Matrix, bool) { return impl.Cauchy(n, n) },
			func() (impl.Matrix, bool) { return impl.Identity(n) },
		} {
			requireUnsharedMatrix(t, call, a, b)
		}
		v, memory := vectorWithSpare(n, 40)
		a.requireUnmodified(t, func() {
			requireUnshared(t, func() []byte {
				solution, _ := impl.Solve(a.matrix, v)
				return solution
			}, memory)
		})
	}
}

func TestMatrixCallsKeepNoState(t *testing.T) {
	for range 2 {
		impl.InverseOf(matrixOf([]byte{1, 2}, []byte{2, 4}))
		impl.Solve(matrixOf([]byte{1}), nil)
		impl.Cauchy(17, 1)
		requireRank(t, matrixOf([]byte{1, 1}, []byte{1, 2}), 2)
	}
}
