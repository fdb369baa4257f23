package tests

import (
	"math"
	"slices"
	"testing"

	"loop.example/g00294/impl"
)

// spare is what stands behind the length of a vector, within its capacity.
const spare = 0xA5

// vectorWithSpare returns n bytes with spare capacity, and all of the memory that they lie in.
func vectorWithSpare(n int, first byte) (vector, memory []byte) {
	memory = make([]byte, n+4)
	for i := range memory {
		memory[i] = spare
	}
	copy(memory, steppedBytes(n, first, 13))
	return memory[:n], memory
}

func overwriteAll(v []byte) {
	v = v[:cap(v)]
	for i := range v {
		v[i] ^= 0xFF
	}
}

func TestVectorLengths(t *testing.T) {
	for _, n := range []int{0, 1, impl.MaxVector - 1, impl.MaxVector, impl.MaxVector + 1, 1000} {
		v, w := steppedBytes(n, 1, 1), steppedBytes(n, 9, 5)
		length, valid := n, n <= impl.MaxVector
		if !valid {
			length = 0
		}
		if got, ok := impl.ScaleVector(3, v); len(got) != length || ok != valid {
			t.Errorf("ScaleVector of %d bytes: %v, %v", n, got, ok)
		}
		if got, ok := impl.AddVectors(v, w); len(got) != length || ok != valid {
			t.Errorf("AddVectors of %d bytes: %v, %v", n, got, ok)
		}
		if got, ok := impl.DotVectors(v, w); ok != valid || !valid && got != 0 {
			t.Errorf("DotVectors of %d bytes: %v, %v", n, got, ok)
		}
	}
}

func TestNilVectorsAreEmptyVectors(t *testing.T) {
	for _, v := range [][]byte{nil, {}} {
		for _, w := range [][]byte{nil, {}} {
			if got, ok := impl.AddVectors(v, w); len(got) != 0 || !ok {
				t.Errorf("AddVectors: %v, %v", got, ok)
			}
			if got, ok := impl.DotVectors(v, w); got != 0 || !ok {
				t.Errorf("DotVectors: %v, %v", got, ok)
			}
		}
		if got, ok := impl.ScaleVector(5, v); len(got) != 0 || !ok {
			t.Errorf("ScaleVector: %v, %v", got, ok)
		}
	}
}

func TestUnequalLengthsFail(t *testing.T) {
	lengths := []int{0, 1, 2, impl.MaxVector - 1, impl.MaxVector, impl.MaxVector + 1, impl.MaxVector + 2}
	for _, n := range lengths {
		for _, m := range lengths {
			if n == m {
				continue
			}
			v, w := steppedBytes(n, 1, 1), steppedBytes(m, 1, 3)
			if got, ok := impl.AddVectors(v, w); len(got) != 0 || ok {
				t.Errorf("AddVectors of %d and %d bytes: %v, %v", n, m, got, ok)
			}
			if got, ok := impl.DotVectors(v, w); got != 0 || ok {
				t.Errorf("DotVectors of %d and %d bytes: %v, %v", n, m, got, ok)
			}
		}
	}
}

func TestPowerOutsideItsRange(t *testing.T) {
	exponents := []int{math.MinInt, math.MinInt32, -10000, -255, -1, 10001, 10255, math.MaxInt32, 1 << 32, math.MaxInt}
	for a := range 256 {
		for _, n := range exponents {
			if got, ok := impl.Power(byte(a), n); got != 0 || ok {
				t.Errorf("Power(%#x, %d) is %#x, %v", a, n, got, ok)
			}
		}
	}
}

func TestVectorArgumentsAreNotModified(t *testing.T) {
	for _, n := range []int{0, 1, 5, impl.MaxVector, impl.MaxVector + 1} {
		for _, m := range []int{0, 1, 5, impl.MaxVector, impl.MaxVector + 1} {
			v, vMemory := vectorWithSpare(n, 17)
			w, wMemory := vectorWithSpare(m, 90)
			vBefore, wBefore := slices.Clone(vMemory), slices.Clone(wMemory)
			impl.ScaleVector(0x57, v)
			impl.AddVectors(v, w)
			impl.DotVectors(v, w)
			if !slices.Equal(vMemory, vBefore) || !slices.Equal(wMemory, wBefore) {
				t.Errorf("vectors of %d and %d bytes were modified", n, m)
			}
		}
	}
}

func TestSpareCapacityIsNotRead(t *testing.T) {
	v, vMemory := vectorWithSpare(5, 17)
	w, wMemory := vectorWithSpare(5, 90)
	sum, _ := impl.AddVectors(v, w)
	scaled, _ := impl.ScaleVector(9, v)
	dot, _ := impl.DotVectors(v, w)
	for i := 5; i < len(vMemory); i++ {
		vMemory[i], wMemory[i] = 1, 2
	}
	if got, ok := impl.AddVectors(v, w); !slices.Equal(got, sum) || len(got) != 5 || !ok {
		t.Errorf("AddVectors: %v, %v", got, ok)
	}
	if got, ok := impl.ScaleVector(9, v); !slices.Equal(got, scaled) || len(got) != 5 || !ok {
		t.Errorf("ScaleVector: %v, %v", got, ok)
	}
	if got, ok := impl.DotVectors(v, w); got != dot || !ok {
		t.Errorf("DotVectors: %v, %v", got, ok)
	}
}

// The factor 1 and the summand 0 are those for which an argument could be handed back as it is.
func TestResultsShareNoMemory(t *testing.T) {
	for _, n := range []int{0, 1, 5, impl.MaxVector} {
		for _, a := range []byte{0, 1, 0x57} {
			v, memory := vectorWithSpare(n, 17)
			requireUnshared(t, func() []byte {
				scaled, _ := impl.ScaleVector(a, v)
				return scaled
			}, memory)
		}
		v, vMemory := vectorWithSpare(n, 17)
		w, wMemory := vectorWithSpare(n, 90)
		zero := make([]byte, n, n+4)
		for _, pair := range [][2][]byte{{v, w}, {v, v}, {v, zero}, {zero, v}} {
			requireUnshared(t, func() []byte {
				sum, _ := impl.AddVectors(pair[0], pair[1])
				return sum
			}, vMemory, wMemory, zero[:cap(zero)])
		}
	}
}

func requireUnshared(t *testing.T, call func() []byte, memories ...[]byte) {
	t.Helper()
	var before [][]byte
	for _, memory := range memories {
		before = append(before, slices.Clone(memory))
	}
	first, second := call(), call()
	kept := slices.Clone(second)
	overwriteAll(first)
	if !slices.Equal(second, kept) {
		t.Error("the results of two calls share memory")
	}
	overwriteAll(second)
	for i, memory := range memories {
		if !slices.Equal(memory, before[i]) {
			t.Error("a result shares memory with an argument")
		}
	}
	if !slices.Equal(call(), kept) {
		t.Error("writing to a result changed the next one")
	}
}

func TestCallsKeepNoState(t *testing.T) {
	for range 2 {
		impl.Power(7, -1)
		impl.LogOf(0)
		impl.Inverse(0)
		if got := impl.Times(0x53, 0xCA); got != 1 {
			t.Errorf("Times is %#x", got)
		}
		if got, ok := impl.Power(3, 3); got != 15 || !ok {
			t.Errorf("Power is %d, %v", got, ok)
		}
		if got, ok := impl.LogOf(5); got != 2 || !ok {
			t.Errorf("LogOf is %d, %v", got, ok)
		}
	}
}
