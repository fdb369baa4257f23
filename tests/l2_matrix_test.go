package tests

import (
	"slices"
	"testing"

	"loop.example/g00294/impl"
)

func matrixOf(rows ...[]byte) impl.Matrix {
	return impl.Matrix{Rows: rows}
}

func sameMatrix(a, b impl.Matrix) bool {
	return slices.EqualFunc(a.Rows, b.Rows, func(v, w []byte) bool { return slices.Equal(v, w) })
}

func matrixWith(rows, columns int, at func(i, j int) byte) impl.Matrix {
	m := impl.Matrix{}
	for i := range rows {
		row := make([]byte, columns)
		for j := range row {
			row[j] = at(i, j)
		}
		m.Rows = append(m.Rows, row)
	}
	return m
}

func unitMatrix(n int) impl.Matrix {
	return matrixWith(n, n, func(i, j int) byte {
		if i == j {
			return 1
		}
		return 0
	})
}

// longMatrixProduct is independent of the program's arithmetic.
func longMatrixProduct(a, b impl.Matrix) impl.Matrix {
	return matrixWith(len(a.Rows), len(b.Rows[0]), func(i, j int) byte {
		sum := byte(0)
		for k := range b.Rows {
			sum ^= longProduct(a.Rows[i][k], b.Rows[k][j])
		}
		return sum
	})
}

// mixedByte spreads its arguments over all bytes.
func mixedByte(seed, i, j int) byte {
	x := uint32(seed)*2654435761 + uint32(i)*40503 + uint32(j)*69069 + 12345
	for range 3 {
		x ^= x << 13
		x ^= x >> 17
		x ^= x << 5
	}
	return byte(x >> 11)
}

// matrixOfRank multiplies matrices of full rank and permutes the result, so that pivots are not on the diagonal.
func matrixOfRank(rows, columns, rank, seed int) impl.Matrix {
	inner := max(rank, 1)
	left := matrixWith(rows, inner, func(i, j int) byte { return staircase(i, j, mixedByte(seed, i, j)) })
	right := matrixWith(inner, columns, func(i, j int) byte {
		if rank == 0 {
			return 0
		}
		return staircase(j, i, mixedByte(seed+1, i, j))
	})
	product := longMatrixProduct(left, right)
	return matrixWith(rows, columns, func(i, j int) byte {
		return product.Rows[(i+seed)%rows][columns-1-(j+seed)%columns]
	})
}

// staircase gives columns that are independent: a 1 on the diagonal and 0 above it.
func staircase(i, j int, below byte) byte {
	if i == j {
		return 1
	}
	if i < j {
		return 0
	}
	return below
}

func determinant(m impl.Matrix) byte {
	if len(m.Rows) == 0 {
		return 1
	}
	sum := byte(0)
	for i := range m.Rows {
		sum ^= longProduct(m.Rows[i][0], determinant(minor(m, i)))
	}
	return sum
}

// minor leaves out a row and the first column.
func minor(m impl.Matrix, without int) impl.Matrix {
	rest := impl.Matrix{}
	for i, row := range m.Rows {
		if i != without {
			rest.Rows = append(rest.Rows, row[1:])
		}
	}
	return rest
}

// choices returns all increasing lists of size indexes below n.
func choices(n, size int) [][]int {
	if size == 0 {
		return [][]int{{}}
	}
	var lists [][]int
	for last := size - 1; last < n; last++ {
		for _, list := range choices(last, size-1) {
			lists = append(lists, append(slices.Clone(list), last))
		}
	}
	return lists
}

// rankByMinors is the size of the greatest square part whose determinant is not 0.
func rankByMinors(m impl.Matrix) int {
	for size := min(len(m.Rows), len(m.Rows[0])); size > 0; size-- {
		for _, rows := range choices(len(m.Rows), size) {
			for _, columns := range choices(len(m.Rows[0]), size) {
				part := matrixWith(size, size, func(i, j int) byte { return m.Rows[rows[i]][columns[j]] })
				if determinant(part) != 0 {
					return size
				}
			}
		}
	}
	return 0
}

// requireRank checks all that promise 2 says of a matrix whose rank is known.
func requireRank(t *testing.T, m impl.Matrix, rank int) {
	t.Helper()
	if got, ok := impl.RankOf(m); got != rank || !ok {
		t.Fatalf("RankOf %v is %d, %v, want %d", m, got, ok, rank)
	}
	turned, ok := impl.Transposed(m)
	if got, rankOk := impl.RankOf(turned); got != rank || !ok || !rankOk {
		t.Fatalf("RankOf the transposed %v is %d, %v, want %d", m, got, rankOk, rank)
	}
	inverse, ok := impl.InverseOf(m)
	if ok != (len(m.Rows) == len(m.Rows[0]) && rank == len(m.Rows)) {
		t.Fatalf("InverseOf %v of rank %d succeeds: %v", m, rank, ok)
	}
	v := steppedBytes(len(m.Rows), 5, 77)
	solution, solvedOk := impl.Solve(m, v)
	if solvedOk != ok {
		t.Fatalf("Solve with %v of rank %d succeeds: %v", m, rank, solvedOk)
	}
	if !ok {
		if len(inverse.Rows) != 0 || len(solution) != 0 {
			t.Fatalf("%v of rank %d: %v, %v", m, rank, inverse, solution)
		}
		return
	}
	requireInverse(t, m, inverse)
	requireSolution(t, m, solution, v)
}

func requireInverse(t *testing.T, m, inverse impl.Matrix) {
	t.Helper()
	identity, ok := impl.Identity(len(m.Rows))
	if !ok || !sameMatrix(identity, unitMatrix(len(m.Rows))) {
		t.Fatalf("Identity: %v, %v", identity, ok)
	}
	if left, ok := impl.Product(inverse, m); !ok || !sameMatrix(left, identity) {
		t.Fatalf("the inverse %v times %v is %v, %v", inverse, m, left, ok)
	}
	if right, ok := impl.Product(m, inverse); !ok || !sameMatrix(right, identity) {
		t.Fatalf("%v times the inverse %v is %v, %v", m, inverse, right, ok)
	}
	if !sameMatrix(longMatrixProduct(m, inverse), identity) {
		t.Fatalf("%v is not the inverse of %v", inverse, m)
	}
	if back, ok := impl.InverseOf(inverse); !ok || !sameMatrix(back, m) {
		t.Fatalf("the inverse of the inverse of %v is %v, %v", m, back, ok)
	}
}

func requireSolution(t *testing.T, m impl.Matrix, solution, v []byte) {
	t.Helper()
	if len(solution) != len(v) {
		t.Fatalf("Solve with %v: %v", m, solution)
	}
	column := matrixWith(len(solution), 1, func(i, j int) byte { return solution[i] })
	product := longMatrixProduct(m, column)
	for i := range v {
		if product.Rows[i][0] != v[i] {
			t.Fatalf("the product of %v and the solution %v is %v, want %v", m, solution, product, v)
		}
	}
}

func TestMatrixExamples(t *testing.T) {
	if impl.MaxSide != 16 {
		t.Errorf("MaxSide is %d", impl.MaxSide)
	}
	if got, ok := impl.RankOf(matrixOf([]byte{1, 2}, []byte{2, 4})); got != 1 || !ok {
		t.Errorf("RankOf: %d, %v", got, ok)
	}
	m := matrixOf([]byte{1, 1}, []byte{1, 2})
	requireRank(t, m, 2)
	if got, ok := impl.InverseOf(m); !ok || !sameMatrix(got, matrixOf([]byte{0xF7, 0xF6}, []byte{0xF6, 0xF6})) {
		t.Errorf("InverseOf: %v, %v", got, ok)
	}
	if got, ok := impl.Solve(m, []byte{3, 5}); !ok || !slices.Equal(got, []byte{1, 2}) {
		t.Errorf("Solve: %v, %v", got, ok)
	}
	if got, ok := impl.Transposed(matrixOf([]byte{1, 2, 3}, []byte{4, 5, 6})); !ok || !sameMatrix(got, matrixOf([]byte{1, 4}, []byte{2, 5}, []byte{3, 6})) {
		t.Errorf("Transposed: %v, %v", got, ok)
	}
}

func TestProductOfRectangles(t *testing.T) {
	got, ok := impl.Product(matrixOf([]byte{1, 2}), matrixOf([]byte{3, 0x80}, []byte{4, 0x80}))
	if !ok || !sameMatrix(got, matrixOf([]byte{11, 0x9B})) {
		t.Errorf("Product: %v, %v", got, ok)
	}
	sides := []int{1, 2, 3, 7, 16}
	for _, rows := range sides {
		for _, inner := range sides {
			for _, columns := range sides {
				a := matrixWith(rows, inner, func(i, j int) byte { return mixedByte(1, i, j) })
				b := matrixWith(inner, columns, func(i, j int) byte { return mixedByte(2, i, j) })
				if got, ok := impl.Product(a, b); !ok || !sameMatrix(got, longMatrixProduct(a, b)) {
					t.Fatalf("Product of %v and %v: %v, %v", a, b, got, ok)
				}
			}
		}
	}
}

// The order of the factors matters, so a product that swaps them is found.
func TestProductDoesNotCommute(t *testing.T) {
	a, b := matrixOf([]byte{0, 1}, []byte{0, 0}), matrixOf([]byte{0, 0}, []byte{1, 0})
	if got, ok := impl.Product(a, b); !ok || !sameMatrix(got, matrixOf([]byte{1, 0}, []byte{0, 0})) {
		t.Errorf("Product: %v, %v", got, ok)
	}
	if got, ok := impl.Product(b, a); !ok || !sameMatrix(got, matrixOf([]byte{0, 0}, []byte{0, 1})) {
		t.Errorf("Product: %v, %v", got, ok)
	}
}

func TestSmallMatricesByDeterminant(t *testing.T) {
	for _, c := range []struct {
		rows, columns int
		values        []byte
	}{
		{1, 1, steppedBytes(256, 0, 1)},
		{2, 2, []byte{0, 1, 2, 3, 4, 6, 0x53, 0x80, 0xCA, 0xFF}},
		{1, 3, []byte{0, 1, 0x53}},
		{2, 3, []byte{0, 1, 2, 0x53}},
		{3, 2, []byte{0, 1, 2, 0x53}},
		{3, 3, []byte{0, 1, 0x8D}},
		{4, 4, []byte{0, 1}},
	} {
		digits := make([]int, c.rows*c.columns)
		for more := true; more; more = nextDigits(digits, len(c.values)) {
			m := matrixWith(c.rows, c.columns, func(i, j int) byte { return c.values[digits[i*c.columns+j]] })
			requireRank(t, m, rankByMinors(m))
		}
	}
}

// nextDigits counts up and reports whether there was a next number.
func nextDigits(digits []int, base int) bool {
	for i := range digits {
		digits[i]++
		if digits[i] < base {
			return true
		}
		digits[i] = 0
	}
	return false
}

func TestMatricesOfKnownRank(t *testing.T) {
	sides := []int{1, 2, 3, 4, 5, 8, 15, 16}
	for _, rows := range sides {
		for _, columns := range sides {
			for rank := 0; rank <= min(rows, columns); rank++ {
				for seed := range 3 {
					requireRank(t, matrixOfRank(rows, columns, rank, seed), rank)
				}
			}
		}
	}
}

// With a single 1 in each row, every pivot but those of the identity has to be fetched from below.
func TestPermutationsAreInvertible(t *testing.T) {
	for n := 1; n <= impl.MaxSide; n++ {
		for shift := range n {
			m := matrixWith(n, n, func(i, j int) byte {
				if (n-1-i+shift)%n == j {
					return byte(200 + i)
				}
				return 0
			})
			requireRank(t, m, n)
		}
	}
}

func TestSolveForSeveralVectors(t *testing.T) {
	for n := 1; n <= impl.MaxSide; n++ {
		m := matrixOfRank(n, n, n, n)
		for _, v := range [][]byte{make([]byte, n), steppedBytes(n, 1, 0), steppedBytes(n, 255, 3)} {
			solution, ok := impl.Solve(m, v)
			if !ok {
				t.Fatalf("Solve with %v fails", m)
			}
			requireSolution(t, m, solution, v)
		}
	}
}

func TestSquarePartsOfCauchyAreInvertible(t *testing.T) {
	for rows := 1; rows <= 5; rows++ {
		for columns := 1; columns <= 5; columns++ {
			for size := 1; size <= min(rows, columns); size++ {
				requireInvertibleParts(t, rows, columns, size)
			}
		}
	}
	requireInvertibleParts(t, 16, 16, 1)
	requireInvertibleParts(t, 16, 16, 2)
	requireInvertibleParts(t, 6, 8, 4)
	requireInvertibleParts(t, 1, 16, 1)
	requireInvertibleParts(t, 16, 1, 1)
	requireInvertibleParts(t, 16, 16, 15)
	requireInvertibleParts(t, 16, 16, 16)
}

func requireInvertibleParts(t *testing.T, rows, columns, size int) {
	t.Helper()
	m, ok := impl.Cauchy(rows, columns)
	if !ok {
		t.Fatalf("Cauchy(%d, %d) fails", rows, columns)
	}
	for _, chosenRows := range choices(rows, size) {
		for _, chosenColumns := range choices(columns, size) {
			part, ok := impl.PartOf(m, chosenRows, chosenColumns)
			inverse, invertible := impl.InverseOf(part)
			if !ok || !invertible {
				t.Fatalf("Cauchy(%d, %d): the part %v, %v is %v, %v", rows, columns, chosenRows, chosenColumns, part, invertible)
			}
			if rank, _ := impl.RankOf(part); rank != size {
				t.Fatalf("the part %v has rank %d", part, rank)
			}
			if !sameMatrix(longMatrixProduct(part, inverse), unitMatrix(size)) {
				t.Fatalf("%v is not the inverse of %v", inverse, part)
			}
		}
	}
}

func TestCauchyElements(t *testing.T) {
	for rows := 1; rows <= impl.MaxSide; rows++ {
		for columns := 1; columns <= impl.MaxSide; columns++ {
			m, ok := impl.Cauchy(rows, columns)
			if !ok || len(m.Rows) != rows {
				t.Fatalf("Cauchy(%d, %d): %v, %v", rows, columns, m, ok)
			}
			for i, row := range m.Rows {
				if len(row) != columns {
					t.Fatalf("Cauchy(%d, %d): %v", rows, columns, m)
				}
				for j, element := range row {
					if longProduct(element, byte((columns+i)^j)) != 1 {
						t.Fatalf("Cauchy(%d, %d) has %#x in row %d and column %d", rows, columns, element, i, j)
					}
				}
			}
		}
	}
}

func TestVandermondeElements(t *testing.T) {
	for rows := 1; rows <= impl.MaxSide; rows++ {
		for columns := 1; columns <= impl.MaxSide; columns++ {
			want := matrixWith(rows, columns, func(i, j int) byte {
				power := byte(1)
				for range j {
					power = longProduct(power, byte(i))
				}
				return power
			})
			if got, ok := impl.Vandermonde(rows, columns); !ok || !sameMatrix(got, want) {
				t.Fatalf("Vandermonde(%d, %d): %v, %v", rows, columns, got, ok)
			}
			requireRank(t, want, min(rows, columns))
		}
	}
}

func TestIdentityIsNeutral(t *testing.T) {
	for n := 1; n <= impl.MaxSide; n++ {
		identity, ok := impl.Identity(n)
		if !ok || !sameMatrix(identity, unitMatrix(n)) {
			t.Fatalf("Identity(%d): %v, %v", n, identity, ok)
		}
		m := matrixWith(n, n, func(i, j int) byte { return mixedByte(n, i, j) })
		if got, ok := impl.Product(identity, m); !ok || !sameMatrix(got, m) {
			t.Fatalf("Identity(%d) times %v is %v, %v", n, m, got, ok)
		}
		if got, ok := impl.Product(m, identity); !ok || !sameMatrix(got, m) {
			t.Fatalf("%v times Identity(%d) is %v, %v", m, n, got, ok)
		}
	}
}

func TestTransposedElements(t *testing.T) {
	for _, rows := range []int{1, 2, 5, 16} {
		for _, columns := range []int{1, 3, 16} {
			m := matrixWith(rows, columns, func(i, j int) byte { return byte(16*i + j) })
			want := matrixWith(columns, rows, func(i, j int) byte { return byte(16*j + i) })
			if got, ok := impl.Transposed(m); !ok || !sameMatrix(got, want) {
				t.Fatalf("Transposed %v: %v, %v", m, got, ok)
			}
		}
	}
}

func TestPartOfElements(t *testing.T) {
	m := matrixWith(16, 15, func(i, j int) byte { return byte(16*i + j) })
	all := []int{0, 1, 2, 3, 4, 5, 6, 7, 8, 9, 10, 11, 12, 13, 14, 15}
	for _, rows := range [][]int{{0}, {15}, {0, 15}, {2, 3, 5, 7}, all} {
		for _, columns := range [][]int{{0}, {14}, {0, 14}, {1, 4, 9}, all[:15]} {
			want := matrixWith(len(rows), len(columns), func(i, j int) byte { return byte(16*rows[i] + columns[j]) })
			if got, ok := impl.PartOf(m, rows, columns); !ok || !sameMatrix(got, want) {
				t.Fatalf("PartOf rows %v and columns %v: %v, %v", rows, columns, got, ok)
			}
		}
	}
}
