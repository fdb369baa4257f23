package tests

import (
	"slices"
	"testing"

	"loop.example/g00294/impl"
)

type byteTable [256][256]byte

// longProduct divides the product by 0x11B, independently of the program's table.
func longProduct(a, b byte) byte {
	product := 0
	for k := range 8 {
		if b>>k&1 == 1 {
			product ^= int(a) << k
		}
	}
	for k := 14; k >= 8; k-- {
		if product>>k&1 == 1 {
			product ^= 0x11B << (k - 8)
		}
	}
	return byte(product)
}

func productTable() *byteTable {
	var table byteTable
	for a := range 256 {
		for b := range 256 {
			table[a][b] = impl.Times(byte(a), byte(b))
		}
	}
	return &table
}

func sumTable(t *testing.T) *byteTable {
	t.Helper()
	var table byteTable
	for a := range 256 {
		for b := range 256 {
			sum, ok := impl.AddVectors([]byte{byte(a)}, []byte{byte(b)})
			if len(sum) != 1 || !ok {
				t.Fatalf("AddVectors of %d and %d: %v, %v", a, b, sum, ok)
			}
			table[a][b] = sum[0]
		}
	}
	return &table
}

// steppedBytes returns n bytes that walk through all values of a byte.
func steppedBytes(n int, first, step byte) []byte {
	v := make([]byte, n)
	for i := range v {
		v[i] = first + byte(i)*step
	}
	return v
}

func TestTimesExamples(t *testing.T) {
	for _, c := range []struct{ a, b, want byte }{
		{0x53, 0xCA, 1},
		{0xCA, 0x53, 1},
		{0x80, 2, 0x1B},
		{0x80, 0x80, 0x9A},
		{0xFF, 0xFF, 0x13},
		{2, 3, 6},
		{3, 3, 5},
		{0, 0xFF, 0},
		{1, 0xFF, 0xFF},
	} {
		if got := impl.Times(c.a, c.b); got != c.want {
			t.Errorf("Times(%#x, %#x) is %#x, want %#x", c.a, c.b, got, c.want)
		}
	}
}

func TestTimesIsTheRemainder(t *testing.T) {
	for a := range 256 {
		for b := range 256 {
			got, want := impl.Times(byte(a), byte(b)), longProduct(byte(a), byte(b))
			if got != want {
				t.Fatalf("Times(%#x, %#x) is %#x, want %#x", a, b, got, want)
			}
		}
	}
}

func TestSumLaws(t *testing.T) {
	sum := sumTable(t)
	for a := range 256 {
		if sum[a][0] != byte(a) || sum[a][a] != 0 {
			t.Fatalf("%#x plus 0 or itself is %#x, %#x", a, sum[a][0], sum[a][a])
		}
		for b := range 256 {
			if sum[a][b] != byte(a^b) {
				t.Fatalf("%#x plus %#x is %#x, not the exclusive or", a, b, sum[a][b])
			}
			if sum[a][b] != sum[b][a] {
				t.Fatalf("the sum of %#x and %#x does not commute", a, b)
			}
		}
	}
	requireAssociative(t, sum, "sum")
}

func TestProductLaws(t *testing.T) {
	product := productTable()
	for a := range 256 {
		if product[a][1] != byte(a) || product[1][a] != byte(a) {
			t.Fatalf("1 is not neutral for %#x", a)
		}
		if product[a][0] != 0 || product[0][a] != 0 {
			t.Fatalf("0 times %#x is not 0", a)
		}
		for b := range 256 {
			if product[a][b] != product[b][a] {
				t.Fatalf("the product of %#x and %#x does not commute", a, b)
			}
			if a != 0 && b != 0 && product[a][b] == 0 {
				t.Fatalf("%#x and %#x divide 0", a, b)
			}
		}
	}
	requireAssociative(t, product, "product")
}

func requireAssociative(t *testing.T, table *byteTable, name string) {
	t.Helper()
	for a := range 256 {
		for b := range 256 {
			left := table[a][b]
			for c := range 256 {
				if table[left][c] != table[a][table[b][c]] {
					t.Fatalf("the %s of %#x, %#x and %#x does not associate", name, a, b, c)
				}
			}
		}
	}
}

func TestProductDistributesOverSum(t *testing.T) {
	sum, product := sumTable(t), productTable()
	for a := range 256 {
		for b := range 256 {
			for c := range 256 {
				if product[a][sum[b][c]] != sum[product[a][b]][product[a][c]] {
					t.Fatalf("%#x does not distribute over %#x and %#x", a, b, c)
				}
			}
		}
	}
}

func TestInverse(t *testing.T) {
	if got := impl.Inverse(0); got != 0 {
		t.Errorf("Inverse(0) is %#x", got)
	}
	if got := impl.Inverse(0x53); got != 0xCA {
		t.Errorf("Inverse(0x53) is %#x", got)
	}
	for a := 1; a < 256; a++ {
		inverse := impl.Inverse(byte(a))
		if impl.Times(byte(a), inverse) != 1 {
			t.Errorf("%#x times its inverse %#x is not 1", a, inverse)
		}
		if impl.Inverse(inverse) != byte(a) {
			t.Errorf("the inverse of the inverse of %#x is %#x", a, impl.Inverse(inverse))
		}
	}
}

func TestPowerIsRepeatedProduct(t *testing.T) {
	product := productTable()
	for a := range 256 {
		want := byte(1)
		for n := 0; n <= 10000; n++ {
			if got, ok := impl.Power(byte(a), n); got != want || !ok {
				t.Fatalf("Power(%#x, %d) is %#x, %v, want %#x", a, n, got, ok, want)
			}
			want = product[want][a]
		}
	}
}

func TestPowerEdges(t *testing.T) {
	for _, c := range []struct {
		a    byte
		n    int
		want byte
		ok   bool
	}{
		{3, 3, 15, true},
		{3, 0, 1, true},
		{0, 0, 1, true},
		{0, 1, 0, true},
		{0, 10000, 0, true},
		{1, 10000, 1, true},
		{3, 255, 1, true},
		{3, 10000, 0xCC, true},
		{3, -1, 0, false},
		{0, -1, 0, false},
		{1, -1, 0, false},
		{3, 10001, 0, false},
		{0, 10001, 0, false},
		{1, 10001, 0, false},
	} {
		if got, ok := impl.Power(c.a, c.n); got != c.want || ok != c.ok {
			t.Errorf("Power(%#x, %d) is %#x, %v, want %#x, %v", c.a, c.n, got, ok, c.want, c.ok)
		}
	}
}

func TestLogOfExamples(t *testing.T) {
	for _, c := range []struct {
		a    byte
		want int
		ok   bool
	}{
		{5, 2, true},
		{1, 0, true},
		{3, 1, true},
		{15, 3, true},
		{0xF6, 254, true},
		{0, 0, false},
	} {
		if got, ok := impl.LogOf(c.a); got != c.want || ok != c.ok {
			t.Errorf("LogOf(%#x) is %d, %v, want %d, %v", c.a, got, ok, c.want, c.ok)
		}
	}
}

func TestPowerAndLogOfBelongTogether(t *testing.T) {
	for a := 1; a < 256; a++ {
		n, ok := impl.LogOf(byte(a))
		if !ok || n < 0 || n > 254 {
			t.Fatalf("LogOf(%#x) is %d, %v", a, n, ok)
		}
		if back, ok := impl.Power(3, n); back != byte(a) || !ok {
			t.Errorf("Power(3, %d) is %#x, %v, want %#x", n, back, ok, a)
		}
	}
	for n := 0; n <= 10000; n++ {
		a, _ := impl.Power(3, n)
		if got, ok := impl.LogOf(a); got != n%255 || !ok {
			t.Fatalf("LogOf(Power(3, %d)) is %d, %v", n, got, ok)
		}
	}
}

func TestVectorExamples(t *testing.T) {
	if got, ok := impl.ScaleVector(2, []byte{0x80, 1, 0, 3}); !slices.Equal(got, []byte{0x1B, 2, 0, 6}) || !ok {
		t.Errorf("ScaleVector: %v, %v", got, ok)
	}
	if got, ok := impl.AddVectors([]byte{1, 2, 0xFF}, []byte{3, 4, 0xFF}); !slices.Equal(got, []byte{2, 6, 0}) || !ok {
		t.Errorf("AddVectors: %v, %v", got, ok)
	}
	if got, ok := impl.DotVectors([]byte{1, 2}, []byte{3, 4}); got != 11 || !ok {
		t.Errorf("DotVectors: %v, %v", got, ok)
	}
}

func TestVectorsBytewise(t *testing.T) {
	for n := 0; n <= impl.MaxVector; n++ {
		v, w := steppedBytes(n, 7, 11), steppedBytes(n, 200, 37)
		for _, a := range []byte{0, 1, 2, 0x53, 0xFF} {
			requireScaled(t, a, v)
		}
		requireAddedAndDotted(t, v, w)
	}
}

func requireScaled(t *testing.T, a byte, v []byte) {
	t.Helper()
	want := make([]byte, len(v))
	for i := range v {
		want[i] = longProduct(a, v[i])
	}
	if got, ok := impl.ScaleVector(a, v); !slices.Equal(got, want) || !ok {
		t.Errorf("ScaleVector of %#x and %d bytes: %v, %v, want %v", a, len(v), got, ok, want)
	}
}

func requireAddedAndDotted(t *testing.T, v, w []byte) {
	t.Helper()
	sum, dot := make([]byte, len(v)), byte(0)
	for i := range v {
		sum[i] = v[i] ^ w[i]
		dot ^= longProduct(v[i], w[i])
	}
	if got, ok := impl.AddVectors(v, w); !slices.Equal(got, sum) || !ok {
		t.Errorf("AddVectors of %d bytes: %v, %v, want %v", len(v), got, ok, sum)
	}
	if got, ok := impl.DotVectors(v, w); got != dot || !ok {
		t.Errorf("DotVectors of %d bytes: %v, %v, want %v", len(v), got, ok, dot)
	}
}

func TestMaxVector(t *testing.T) {
	if impl.MaxVector != 80 {
		t.Errorf("MaxVector is %d", impl.MaxVector)
	}
}
