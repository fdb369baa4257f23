package tests

import (
	"slices"
	"strings"
	"testing"

	"loop.example/g00294/impl"
)

type shape struct{ k, m int }

func allShapes() []shape {
	var shapes []shape
	for k := 1; k <= 8; k++ {
		for m := 1; m <= 6; m++ {
			shapes = append(shapes, shape{k, m})
		}
	}
	return shapes
}

// smallShapes have so few shards that all their subsets can be tried.
func smallShapes() []shape {
	return []shape{{1, 1}, {1, 6}, {2, 1}, {2, 3}, {3, 2}, {4, 4}, {5, 2}, {8, 1}}
}

func longInverse(a byte) byte {
	for b := range 256 {
		if longProduct(a, byte(b)) == 1 {
			return byte(b)
		}
	}
	return 0
}

// longCode is independent of the program's arithmetic.
func longCode(k, m int) impl.Matrix {
	unit := unitMatrix(k)
	return matrixWith(k+m, k, func(i, j int) byte {
		if i < k {
			return unit.Rows[i][j]
		}
		return longInverse(byte(i ^ j))
	})
}

func longShards(data []string, m int) []impl.Shard {
	bytes := matrixWith(len(data), len(data[0]), func(i, j int) byte { return data[i][j] })
	var texts []string
	for _, row := range longMatrixProduct(longCode(len(data), m), bytes).Rows {
		texts = append(texts, string(row))
	}
	return numbered(texts...)
}

// numbered makes shards with the numbers from 0 on.
func numbered(texts ...string) []impl.Shard {
	var shards []impl.Shard
	for no, text := range texts {
		shards = append(shards, impl.Shard{No: no, Data: text})
	}
	return shards
}

// mixedTexts returns count texts of equal length whose bytes take all values.
func mixedTexts(count, length, seed int) []string {
	texts := make([]string, count)
	for i := range texts {
		text := make([]byte, length)
		for j := range text {
			text[j] = mixedByte(seed, i, j)
		}
		texts[i] = string(text)
	}
	return texts
}

// dataOfShape returns several data for each length: mixed bytes, and bytes that are all 0 or 255.
func dataOfShape(k int, lengths ...int) [][]string {
	var all [][]string
	for _, length := range lengths {
		all = append(all,
			mixedTexts(k, length, k+length),
			slices.Repeat([]string{strings.Repeat("\x00", length)}, k),
			slices.Repeat([]string{strings.Repeat("\xff", length)}, k))
	}
	return all
}

func encoded(t *testing.T, data []string, m int) []impl.Shard {
	t.Helper()
	shards, ok := impl.EncodeShards(data, m)
	if !ok || len(shards) != len(data)+m {
		t.Fatalf("EncodeShards of %q with %d parities: %#v, %v", data, m, shards, ok)
	}
	return shards
}

func pickedShards(shards []impl.Shard, places []int) []impl.Shard {
	var some []impl.Shard
	for _, place := range places {
		some = append(some, shards[place])
	}
	return some
}

// subsets returns all increasing lists of at least size indexes below n.
func subsets(n, size int) [][]int {
	var lists [][]int
	for ; size <= n; size++ {
		lists = append(lists, choices(n, size)...)
	}
	return lists
}

func without(list []int, value int) []int {
	return slices.DeleteFunc(slices.Clone(list), func(n int) bool { return n == value })
}

// spoiled changes one byte of one shard.
func spoiled(shards []impl.Shard, place, position int, change byte) []impl.Shard {
	wrong := slices.Clone(shards)
	data := []byte(wrong[place].Data)
	data[position] ^= change
	wrong[place].Data = string(data)
	return wrong
}

func requireDecoded(t *testing.T, shards []impl.Shard, s shape, want []string) {
	t.Helper()
	if got, ok := impl.DecodeShards(shards, s.k, s.m); !ok || !slices.Equal(got, want) {
		t.Fatalf("DecodeShards of %#v with %v: %q, %v, want %q", shards, s, got, ok, want)
	}
}

func requireRebuilt(t *testing.T, shards []impl.Shard, s shape, want impl.Shard) {
	t.Helper()
	if got, ok := impl.RebuildShard(shards, s.k, s.m, want.No); !ok || got != want {
		t.Fatalf("RebuildShard %d of %#v with %v: %#v, %v, want %#v", want.No, shards, s, got, ok, want)
	}
}

func requireChecked(t *testing.T, shards []impl.Shard, s shape, want bool) {
	t.Helper()
	if got, ok := impl.CheckShards(shards, s.k, s.m); !ok || got != want {
		t.Fatalf("CheckShards of %#v with %v: %v, %v, want %v", shards, s, got, ok, want)
	}
}

func TestShardExamples(t *testing.T) {
	data, ok := impl.SplitText("hello!", 3)
	if !ok || !slices.Equal(data, []string{"he", "ll", "o!"}) {
		t.Fatalf("SplitText: %q, %v", data, ok)
	}
	shards := encoded(t, data, 2)
	want := numbered("he", "ll", "o!", "\x88\x34", "\x99\x4c")
	if !slices.Equal(shards, want) {
		t.Fatalf("EncodeShards: %#v, want %#v", shards, want)
	}
	for _, places := range choices(5, 3) {
		some := pickedShards(shards, places)
		requireDecoded(t, some, shape{3, 2}, data)
		back, _ := impl.DecodeShards(some, 3, 2)
		if text, ok := impl.JoinShards(back, 6); !ok || text != "hello!" {
			t.Errorf("JoinShards of %q: %q, %v", back, text, ok)
		}
	}
}

func TestCodeMatrixElements(t *testing.T) {
	for _, s := range allShapes() {
		got, ok := impl.CodeMatrix(s.k, s.m)
		if !ok || !impl.GoodMatrix(got) || !sameMatrix(got, longCode(s.k, s.m)) {
			t.Errorf("CodeMatrix of %v: %v, %v", s, got, ok)
		}
	}
}

func TestShardsAreTheProduct(t *testing.T) {
	for _, s := range allShapes() {
		for _, data := range dataOfShape(s.k, 0, 1, 2, 39, 40) {
			got := encoded(t, data, s.m)
			if !slices.Equal(got, longShards(data, s.m)) {
				t.Fatalf("EncodeShards of %q with %v: %#v", data, s, got)
			}
		}
	}
}

func TestEveryChoiceOfShardsDecodes(t *testing.T) {
	for _, s := range allShapes() {
		for _, length := range []int{0, 2, 40} {
			data := mixedTexts(s.k, length, s.m)
			shards := encoded(t, data, s.m)
			for _, places := range choices(s.k+s.m, s.k) {
				requireDecoded(t, pickedShards(shards, places), s, data)
			}
		}
	}
}

func TestSeveralLengthsDecode(t *testing.T) {
	for _, s := range smallShapes() {
		for _, data := range dataOfShape(s.k, 0, 1, 7, 40) {
			shards := encoded(t, data, s.m)
			for _, places := range subsets(s.k+s.m, s.k) {
				requireDecoded(t, pickedShards(shards, places), s, data)
			}
		}
	}
}

// The numbers, not the places in the list, say which shards these are.
func TestDecodedShardsNeedNotBeEncoded(t *testing.T) {
	for _, s := range smallShapes() {
		for _, numbers := range choices(s.k+s.m, s.k) {
			var shards []impl.Shard
			for i, text := range mixedTexts(s.k, 5, 9) {
				shards = append(shards, impl.Shard{No: numbers[i], Data: text})
			}
			data, ok := impl.DecodeShards(shards, s.k, s.m)
			if !ok {
				t.Fatalf("DecodeShards of %#v with %v fails", shards, s)
			}
			if got := pickedShards(longShards(data, s.m), numbers); !slices.Equal(got, shards) {
				t.Fatalf("DecodeShards of %#v with %v: the shards of %q are %#v", shards, s, data, got)
			}
		}
	}
}

func TestDecodeShardsUsesTheFirst(t *testing.T) {
	for _, s := range smallShapes() {
		data := mixedTexts(s.k, 4, 3)
		shards := encoded(t, data, s.m)
		for _, places := range subsets(s.k+s.m, s.k) {
			some := pickedShards(shards, places)
			for place := range some {
				wrong := spoiled(some, place, place%4, 0x40)
				if place >= s.k {
					requireDecoded(t, wrong, s, data)
					continue
				}
				got, ok := impl.DecodeShards(wrong, s.k, s.m)
				if !ok || slices.Equal(got, data) {
					t.Fatalf("DecodeShards of %#v with %v: %q, %v", wrong, s, got, ok)
				}
				requireDecoded(t, wrong[:s.k], s, got)
			}
		}
	}
}

func TestRebuildEveryShard(t *testing.T) {
	for _, s := range smallShapes() {
		for _, data := range dataOfShape(s.k, 0, 1, 40) {
			shards := longShards(data, s.m)
			for _, places := range subsets(s.k+s.m, s.k) {
				for no, want := range shards {
					requireRebuilt(t, pickedShards(shards, places), s, want)
					if others := without(places, no); len(others) >= s.k {
						requireRebuilt(t, pickedShards(shards, others), s, want)
					}
				}
			}
		}
	}
}

func TestRebuildFromAnyOthers(t *testing.T) {
	for _, s := range allShapes() {
		shards := longShards(mixedTexts(s.k, 1, 21), s.m)
		for no, want := range shards {
			others := slices.Delete(slices.Clone(shards), no, no+1)
			for _, places := range choices(len(others), s.k) {
				requireRebuilt(t, pickedShards(others, places), s, want)
			}
			requireRebuilt(t, others, s, want)
			requireRebuilt(t, shards, s, want)
		}
	}
}

// What is rebuilt is made of the first k shards, whatever the others are.
func TestRebuildWithWrongShards(t *testing.T) {
	for _, s := range smallShapes() {
		shards := longShards(mixedTexts(s.k, 4, 8), s.m)
		for place := range shards {
			wrong := spoiled(shards, place, 3, 0x81)
			data, ok := impl.DecodeShards(wrong, s.k, s.m)
			if !ok {
				t.Fatalf("DecodeShards of %#v fails", wrong)
			}
			for no, want := range longShards(data, s.m) {
				requireRebuilt(t, wrong, s, want)
				if place >= s.k && want != shards[no] {
					t.Fatalf("a wrong shard %d changes shard %d: %#v", place, no, want)
				}
			}
		}
	}
}

func TestRightShardsAreRight(t *testing.T) {
	for _, s := range allShapes() {
		for _, data := range dataOfShape(s.k, 0, 1, 40) {
			requireChecked(t, encoded(t, data, s.m), s, true)
		}
	}
	for _, s := range smallShapes() {
		shards := encoded(t, mixedTexts(s.k, 3, 12), s.m)
		for _, places := range subsets(s.k+s.m, s.k) {
			requireChecked(t, pickedShards(shards, places), s, true)
		}
	}
}

func TestOneWrongShardIsFound(t *testing.T) {
	for _, s := range smallShapes() {
		shards := encoded(t, mixedTexts(s.k, 3, 5), s.m)
		for _, places := range subsets(s.k+s.m, s.k) {
			some := pickedShards(shards, places)
			for place := range some {
				for position, change := range []byte{0x01, 0x80, 0xFF} {
					// k shards are those of some data, whatever they are.
					requireChecked(t, spoiled(some, place, position, change), s, len(some) == s.k)
				}
			}
		}
	}
}

// The data of another shard, which may be missing in the list, is wrong all the same.
func TestTheDataOfAnotherShardIsWrong(t *testing.T) {
	for _, s := range smallShapes() {
		shards := encoded(t, mixedTexts(s.k, 3, 5), s.m)
		for _, places := range subsets(s.k+s.m, s.k+1) {
			some := pickedShards(shards, places)
			for place := range some {
				for _, other := range shards {
					wrong := slices.Clone(some)
					wrong[place].Data = other.Data
					requireChecked(t, wrong, s, other.Data == some[place].Data)
				}
			}
		}
	}
}

func TestWrongShardsOfTheLargestShapes(t *testing.T) {
	for _, s := range []shape{{8, 6}, {8, 1}, {1, 6}, {7, 5}} {
		shards := encoded(t, mixedTexts(s.k, 40, 5), s.m)
		for place := range shards {
			for _, position := range []int{0, 1, 20, 39} {
				wrong := spoiled(shards, place, position, 0x10)
				requireChecked(t, wrong, s, false)
				first := min(place, s.m-1)
				requireChecked(t, wrong[first:first+s.k+1], s, false)
			}
		}
	}
}

func TestAllChangesOfAByteAreFound(t *testing.T) {
	s := shape{3, 2}
	shards := encoded(t, mixedTexts(3, 2, 77), 2)
	for place := range shards {
		for change := 1; change < 256; change++ {
			requireChecked(t, spoiled(shards, place, change%2, byte(change)), s, false)
		}
	}
}

func TestSplitTextsAreJoined(t *testing.T) {
	for k := 1; k <= 8; k++ {
		for size := 0; size <= k*40; size++ {
			text := mixedTexts(1, size, k)[0]
			texts, ok := impl.SplitText(text, k)
			if !ok || len(texts) != k {
				t.Fatalf("SplitText of %d bytes into %d: %q, %v", size, k, texts, ok)
			}
			requireMinimalTexts(t, texts, size)
			all := strings.Join(texts, "")
			if all != text+strings.Repeat("\x00", len(all)-size) {
				t.Fatalf("SplitText of %q into %d: %q", text, k, texts)
			}
			if got, ok := impl.JoinShards(texts, size); !ok || got != text {
				t.Fatalf("JoinShards of %q with size %d: %q, %v", texts, size, got, ok)
			}
		}
	}
}

// requireMinimalTexts checks that shorter texts would not hold all bytes.
func requireMinimalTexts(t *testing.T, texts []string, size int) {
	t.Helper()
	length := len(texts[0])
	for _, text := range texts {
		if len(text) != length {
			t.Fatalf("the lengths of %q differ", texts)
		}
	}
	if length*len(texts) < size || length > 0 && (length-1)*len(texts) >= size {
		t.Fatalf("%d texts for %d bytes have %d bytes each", len(texts), size, length)
	}
}

func TestSplitTextPadding(t *testing.T) {
	for _, c := range []struct {
		text string
		k    int
		want []string
	}{
		{"", 1, []string{""}},
		{"", 3, []string{"", "", ""}},
		{"a", 1, []string{"a"}},
		{"a", 3, []string{"a", "\x00", "\x00"}},
		{"abc", 2, []string{"ab", "c\x00"}},
		{"abcd", 3, []string{"ab", "cd", "\x00\x00"}},
		{"a\x00", 1, []string{"a\x00"}},
		{"\x00\x00\x00", 2, []string{"\x00\x00", "\x00\x00"}},
		{"\xc3\xa4\xff", 3, []string{"\xc3", "\xa4", "\xff"}},
	} {
		if got, ok := impl.SplitText(c.text, c.k); !ok || !slices.Equal(got, c.want) {
			t.Errorf("SplitText of %q into %d: %q, %v, want %q", c.text, c.k, got, ok, c.want)
		}
		if got, ok := impl.JoinShards(c.want, len(c.text)); !ok || got != c.text {
			t.Errorf("JoinShards of %q: %q, %v", c.want, got, ok)
		}
	}
}

func TestJoinShardsOfEverySize(t *testing.T) {
	for count := 1; count <= 8; count++ {
		for _, length := range []int{0, 1, 3, 40} {
			texts := mixedTexts(count, length, 4)
			all := strings.Join(texts, "")
			for size := 0; size <= len(all); size++ {
				if got, ok := impl.JoinShards(texts, size); !ok || got != all[:size] {
					t.Fatalf("JoinShards of %q with size %d: %q, %v", texts, size, got, ok)
				}
			}
		}
	}
}

// A text of any size is carried through all functions, from the parities as far as there are enough of them.
func TestTextsThroughLostShards(t *testing.T) {
	for _, s := range allShapes() {
		for _, size := range []int{0, 1, s.k, s.k*40 - 1, s.k * 40} {
			text := mixedTexts(1, size, s.m)[0]
			data, _ := impl.SplitText(text, s.k)
			back, ok := impl.DecodeShards(encoded(t, data, s.m)[s.m:], s.k, s.m)
			if got, joined := impl.JoinShards(back, size); !ok || !joined || got != text {
				t.Fatalf("%d bytes with %v: %q, %v, want %q", size, s, got, joined, text)
			}
		}
	}
}
