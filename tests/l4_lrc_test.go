package tests

import (
	"slices"
	"testing"

	"loop.example/g00294/impl"
)

func localCode(groups, each, global int) impl.Local {
	return impl.Local{Groups: groups, Each: each, Global: global}
}

func allLocals() []impl.Local {
	var codes []impl.Local
	for groups := 1; groups <= 4; groups++ {
		for each := 1; each <= 4 && groups*each <= 8; each++ {
			for global := 1; global <= 4; global++ {
				codes = append(codes, localCode(groups, each, global))
			}
		}
	}
	return codes
}

// smallLocals have so few shards that all their subsets can be tried.
func smallLocals() []impl.Local {
	return []impl.Local{
		localCode(1, 1, 1), localCode(1, 1, 4), localCode(1, 2, 2), localCode(1, 4, 2), localCode(2, 1, 2),
		localCode(2, 2, 1), localCode(2, 2, 2), localCode(2, 3, 1), localCode(2, 2, 4), localCode(3, 1, 3),
		localCode(3, 2, 1), localCode(4, 1, 2),
	}
}

func dataCount(c impl.Local) int  { return c.Groups * c.Each }
func shardCount(c impl.Local) int { return c.Groups*c.Each + c.Groups + c.Global }

// groupMembers lists the shards of each group one by one, data first.
func groupMembers(c impl.Local) [][]int {
	groups := make([][]int, c.Groups)
	no := 0
	for group := range groups {
		for range c.Each {
			groups[group] = append(groups[group], no)
			no++
		}
	}
	for group := range groups {
		groups[group] = append(groups[group], no)
		no++
	}
	return groups
}

// longLocal is independent of the program's arithmetic.
func longLocal(c impl.Local) impl.Matrix {
	k := dataCount(c)
	unit, groups := unitMatrix(k), groupMembers(c)
	return matrixWith(shardCount(c), k, func(i, j int) byte {
		switch {
		case i < k:
			return unit.Rows[i][j]
		case i >= k+c.Groups:
			return longInverse(byte((i - c.Groups) ^ j))
		case slices.Contains(groups[i-k], j):
			return 1
		}
		return 0
	})
}

func longLocalShards(c impl.Local, data []string) []impl.Shard {
	bytes := matrixWith(len(data), len(data[0]), func(i, j int) byte { return data[i][j] })
	var texts []string
	for _, row := range longMatrixProduct(longLocal(c), bytes).Rows {
		texts = append(texts, string(row))
	}
	return numbered(texts...)
}

// span holds rows that are not linear combinations of each other, with the column where each of them begins.
type span struct {
	rows  [][]byte
	first []int
}

// add takes a row unless it is a linear combination of those in the span.
func (s *span) add(row []byte) bool {
	row = slices.Clone(row)
	for i, other := range s.rows {
		here, there := row[s.first[i]], other[s.first[i]]
		for j := range row {
			row[j] = longProduct(row[j], there) ^ longProduct(other[j], here)
		}
	}
	first := slices.IndexFunc(row, func(b byte) bool { return b != 0 })
	if first < 0 {
		return false
	}
	s.rows, s.first = append(s.rows, row), append(s.first, first)
	return true
}

// usedNumbers returns those of the numbers whose rows are not linear combinations of the preceding ones.
func usedNumbers(code impl.Matrix, numbers []int) []int {
	var s span
	var used []int
	for _, no := range numbers {
		if s.add(code.Rows[no]) {
			used = append(used, no)
		}
	}
	return used
}

func encodedLocal(t *testing.T, c impl.Local, data []string) []impl.Shard {
	t.Helper()
	shards, ok := impl.EncodeLocal(c, data)
	if !ok || len(shards) != shardCount(c) {
		t.Fatalf("EncodeLocal of %q with %v: %#v, %v", data, c, shards, ok)
	}
	return shards
}

func requireMended(t *testing.T, c impl.Local, shards []impl.Shard, want impl.Shard) {
	t.Helper()
	if got, ok := impl.MendLocal(c, shards, want.No); !ok || got != want {
		t.Fatalf("MendLocal %d of %#v with %v: %#v, %v, want %#v", want.No, shards, c, got, ok, want)
	}
}

func requireLocalDecoded(t *testing.T, c impl.Local, shards []impl.Shard, want []string) {
	t.Helper()
	if got, ok := impl.DecodeLocal(c, shards); !ok || !slices.Equal(got, want) {
		t.Fatalf("DecodeLocal of %#v with %v: %q, %v, want %q", shards, c, got, ok, want)
	}
}

func requireNotLocalDecoded(t *testing.T, c impl.Local, shards []impl.Shard) {
	t.Helper()
	if got, ok := impl.DecodeLocal(c, shards); len(got) != 0 || ok {
		t.Fatalf("DecodeLocal of %#v with %v: %q, %v", shards, c, got, ok)
	}
}

func requireCanDecode(t *testing.T, c impl.Local, some []int, want bool) {
	t.Helper()
	if got, ok := impl.CanDecode(c, some); !ok || got != want {
		t.Fatalf("CanDecode of %v with %v: %v, %v, want %v", some, c, got, ok, want)
	}
}

// requireDecodedIfPossible checks that the shards with these numbers yield the data exactly if their rows have its rank.
func requireDecodedIfPossible(t *testing.T, c impl.Local, code impl.Matrix, shards []impl.Shard, data []string, some []int) {
	t.Helper()
	can := len(usedNumbers(code, some)) == dataCount(c)
	requireCanDecode(t, c, some, can)
	if can {
		requireLocalDecoded(t, c, pickedShards(shards, some), data)
	} else {
		requireNotLocalDecoded(t, c, pickedShards(shards, some))
	}
}

func TestLocalExamples(t *testing.T) {
	c := localCode(2, 2, 2)
	data := []string{"a", "b", "c", "d"}
	shards := encodedLocal(t, c, data)
	if !slices.Equal(shards[:6], numbered("a", "b", "c", "d", "\x03", "\x07")) {
		t.Errorf("EncodeLocal: %#v", shards)
	}
	if helpers, ok := impl.HelpersOf(c, 1); !ok || !slices.Equal(helpers, []int{0, 4}) {
		t.Errorf("HelpersOf: %v, %v", helpers, ok)
	}
	requireMended(t, c, []impl.Shard{shards[0], shards[4]}, shards[1])
	requireCanDecode(t, c, []int{0, 4, 5}, false)
	requireNotLocalDecoded(t, c, pickedShards(shards, []int{0, 4, 5}))
	requireCanDecode(t, c, []int{0, 1, 6, 7}, true)
	requireLocalDecoded(t, c, pickedShards(shards, []int{0, 1, 6, 7}), data)
}

func TestLocalMatrixByHand(t *testing.T) {
	// 0xF6, 0x8D and 1 are the inverses of 3, 2 and 1.
	want := matrixOf([]byte{1, 0}, []byte{0, 1}, []byte{1, 1}, []byte{0x8D, 0xF6}, []byte{0xF6, 0x8D})
	if got, ok := impl.LocalMatrix(localCode(1, 2, 2)); !ok || !sameMatrix(got, want) {
		t.Errorf("LocalMatrix of one group of two: %v, %v, want %v", got, ok, want)
	}
	want = matrixOf([]byte{1}, []byte{1}, []byte{1})
	if got, ok := impl.LocalMatrix(localCode(1, 1, 1)); !ok || !sameMatrix(got, want) {
		t.Errorf("LocalMatrix of one group of one: %v, %v, want %v", got, ok, want)
	}
}

func TestLocalMatrixElements(t *testing.T) {
	for _, c := range allLocals() {
		got, ok := impl.LocalMatrix(c)
		if !ok || !impl.GoodMatrix(got) || !sameMatrix(got, longLocal(c)) {
			t.Errorf("LocalMatrix of %v: %v, %v", c, got, ok)
		}
	}
}

func TestLocalShardsAreTheProduct(t *testing.T) {
	for _, c := range allLocals() {
		for _, data := range dataOfShape(dataCount(c), 0, 1, 2, 39, 40) {
			got := encodedLocal(t, c, data)
			if !slices.Equal(got, longLocalShards(c, data)) {
				t.Fatalf("EncodeLocal of %q with %v: %#v", data, c, got)
			}
		}
	}
}

func TestEveryMemberOfEveryGroup(t *testing.T) {
	for _, c := range allLocals() {
		for group, members := range groupMembers(c) {
			for _, no := range members {
				if got, ok := impl.GroupOf(c, no); !ok || got != group {
					t.Errorf("GroupOf %d with %v: %d, %v, want %d", no, c, got, ok, group)
				}
				got, ok := impl.HelpersOf(c, no)
				if !ok || !slices.Equal(got, without(members, no)) {
					t.Errorf("HelpersOf %d with %v: %v, %v, want %v without it", no, c, got, ok, members)
				}
			}
		}
	}
}

func TestHelpersAtTheBorders(t *testing.T) {
	c := localCode(2, 4, 3)
	for no, want := range map[int][]int{
		0: {1, 2, 3, 8}, 3: {0, 1, 2, 8}, 4: {5, 6, 7, 9}, 7: {4, 5, 6, 9}, 8: {0, 1, 2, 3}, 9: {4, 5, 6, 7},
	} {
		if got, ok := impl.HelpersOf(c, no); !ok || !slices.Equal(got, want) {
			t.Errorf("HelpersOf %d: %v, %v, want %v", no, got, ok, want)
		}
	}
	c = localCode(4, 1, 1)
	for no, want := range []int{4, 5, 6, 7, 0, 1, 2, 3} {
		if got, ok := impl.HelpersOf(c, no); !ok || !slices.Equal(got, []int{want}) {
			t.Errorf("HelpersOf %d: %v, %v, want %v", no, got, ok, want)
		}
	}
}

func TestEveryShardOfAGroupIsMended(t *testing.T) {
	for _, c := range allLocals() {
		for _, data := range dataOfShape(dataCount(c), 0, 1, 2, 7, 40) {
			shards := encodedLocal(t, c, data)
			for _, members := range groupMembers(c) {
				for _, no := range members {
					requireMended(t, c, pickedShards(shards, without(members, no)), shards[no])
					requireMended(t, c, slices.Delete(slices.Clone(shards), no, no+1), shards[no])
					requireMended(t, c, shards, shards[no])
				}
			}
		}
	}
}

// A shard is mended in every list of shards that has its helpers in it, and in no other one.
func TestMendLocalFromEveryListOfShards(t *testing.T) {
	for _, c := range smallLocals() {
		shards := longLocalShards(c, mixedTexts(dataCount(c), 3, 4))
		for _, places := range subsets(len(shards), 0) {
			some := pickedShards(shards, places)
			for _, members := range groupMembers(c) {
				for _, no := range members {
					if allIn(without(members, no), places) {
						requireMended(t, c, some, shards[no])
					} else {
						requireNotMended(t, c, some, no)
					}
				}
			}
		}
	}
}

func allIn(some, list []int) bool {
	return !slices.ContainsFunc(some, func(n int) bool { return !slices.Contains(list, n) })
}

// Neither the given shard itself nor a shard of another group has a part in what is mended.
func TestMendLocalUsesTheHelpersAlone(t *testing.T) {
	for _, c := range allLocals() {
		shards := longLocalShards(c, mixedTexts(dataCount(c), 4, 6))
		for _, members := range groupMembers(c) {
			for _, no := range members {
				wrong := slices.Clone(shards)
				for place := range wrong {
					if place == no || !slices.Contains(members, place) {
						wrong = spoiled(wrong, place, place%4, 0x21)
					}
				}
				requireMended(t, c, wrong, shards[no])
			}
		}
	}
}

// What is mended is the sum of the helpers, whether or not these were encoded.
func TestMendedIsTheSum(t *testing.T) {
	for _, c := range allLocals() {
		shards := numbered(mixedTexts(shardCount(c), 5, 31)...)
		for _, members := range groupMembers(c) {
			for _, no := range members {
				sum := make([]byte, 5)
				for _, helper := range without(members, no) {
					for i := range sum {
						sum[i] ^= shards[helper].Data[i]
					}
				}
				requireMended(t, c, shards, impl.Shard{No: no, Data: string(sum)})
			}
		}
	}
}

func TestEveryListOfShardsDecodesIfItCan(t *testing.T) {
	for _, c := range smallLocals() {
		code := longLocal(c)
		for _, length := range []int{0, 3} {
			data := mixedTexts(dataCount(c), length, 17)
			shards := encodedLocal(t, c, data)
			for _, some := range subsets(len(shards), 0) {
				requireDecodedIfPossible(t, c, code, shards, data, some)
			}
		}
	}
}

func TestCanDecodeByMinors(t *testing.T) {
	for _, c := range []impl.Local{localCode(1, 1, 2), localCode(1, 3, 2), localCode(2, 1, 2), localCode(3, 1, 1)} {
		code := longLocal(c)
		for _, some := range subsets(len(code.Rows), 1) {
			rows := matrixWith(len(some), dataCount(c), func(i, j int) byte { return code.Rows[some[i]][j] })
			requireCanDecode(t, c, some, rankByMinors(rows) == dataCount(c))
		}
	}
}

func TestFewLossesOfEveryCode(t *testing.T) {
	for _, c := range allLocals() {
		code := longLocal(c)
		data := mixedTexts(dataCount(c), 2, 23)
		shards := encodedLocal(t, c, data)
		for lost := 0; lost <= 3; lost++ {
			for _, some := range choices(len(shards), max(len(shards)-lost, 0)) {
				requireDecodedIfPossible(t, c, code, shards, data, some)
			}
		}
		for _, some := range choices(len(shards), dataCount(c)-1) {
			requireCanDecode(t, c, some, false)
			requireNotLocalDecoded(t, c, pickedShards(shards, some))
		}
	}
}

// One lost shard in each group costs nothing, whatever becomes of the global parities;
// and these make up for as many more as there are of them, as far as the rank says it.
func TestEachGroupLosesAShard(t *testing.T) {
	for _, c := range allLocals() {
		code := longLocal(c)
		data := mixedTexts(dataCount(c), 40, 29)
		shards := encodedLocal(t, c, data)
		local := dataCount(c) + c.Groups
		for step := range c.Each + 1 {
			var left []int
			for group, members := range groupMembers(c) {
				left = append(left, without(members, members[(step+group)%len(members)])...)
			}
			slices.Sort(left)
			requireCanDecode(t, c, left, true)
			requireLocalDecoded(t, c, pickedShards(shards, left), data)
			for _, no := range left {
				fewer := without(left, no)
				requireCanDecode(t, c, fewer, false)
				requireNotLocalDecoded(t, c, pickedShards(shards, fewer))
				for global := local; global < len(shards); global++ {
					requireDecodedIfPossible(t, c, code, shards, data, append(slices.Clone(fewer), global))
				}
			}
		}
	}
}

// A whole group is lost, and of the others each shard in turn.
func TestALostGroup(t *testing.T) {
	for _, c := range allLocals() {
		code := longLocal(c)
		data := mixedTexts(dataCount(c), 3, 37)
		shards := encodedLocal(t, c, data)
		for _, members := range groupMembers(c) {
			var left []int
			for no := range shards {
				if !slices.Contains(members, no) {
					left = append(left, no)
				}
			}
			requireDecodedIfPossible(t, c, code, shards, data, left)
			// The group's data stands in the global parities alone, any part of which is invertible.
			requireCanDecode(t, c, left, c.Global >= c.Each)
			for _, no := range left {
				requireDecodedIfPossible(t, c, code, shards, data, without(left, no))
			}
		}
	}
}

// The first shards whose rows are independent determine the data; the others are not looked at.
func TestDecodeLocalUsesTheFirstIndependentShards(t *testing.T) {
	for _, c := range smallLocals() {
		code := longLocal(c)
		data := mixedTexts(dataCount(c), 4, 41)
		shards := longLocalShards(c, data)
		for _, some := range subsets(len(shards), dataCount(c)) {
			used := usedNumbers(code, some)
			if len(used) < dataCount(c) {
				continue
			}
			right := pickedShards(shards, some)
			for place, no := range some {
				wrong := spoiled(right, place, place%4, 0x40)
				if !slices.Contains(used, no) {
					requireLocalDecoded(t, c, wrong, data)
					continue
				}
				requireDataOf(t, c, wrong, used)
			}
		}
	}
}

// requireDataOf checks that the decoded data has the used shards, though it does not have all of the given ones.
func requireDataOf(t *testing.T, c impl.Local, shards []impl.Shard, used []int) {
	t.Helper()
	data, ok := impl.DecodeLocal(c, shards)
	if !ok || len(data) != dataCount(c) {
		t.Fatalf("DecodeLocal of %#v with %v: %q, %v", shards, c, data, ok)
	}
	made := longLocalShards(c, data)
	for _, shard := range shards {
		if slices.Contains(used, shard.No) && made[shard.No] != shard {
			t.Fatalf("DecodeLocal of %#v with %v: %q, whose shard is %#v", shards, c, data, made[shard.No])
		}
	}
}

// The rows of a complete group depend on each other, so that its parity, which comes last, is not used.
func TestAParityBehindItsDataIsNotUsed(t *testing.T) {
	c := localCode(2, 2, 2)
	data := []string{"ab", "cd", "ef", "gh"}
	shards := longLocalShards(c, data)
	some := pickedShards(shards, []int{0, 1, 4, 6, 7})
	requireLocalDecoded(t, c, spoiled(some, 2, 0, 0xFF), data)
	got, ok := impl.DecodeLocal(c, spoiled(some, 3, 0, 0xFF))
	if !ok || got[0] != "ab" || got[1] != "cd" || slices.Equal(got, data) {
		t.Errorf("DecodeLocal with a wrong global parity: %q, %v", got, ok)
	}
}

// The two global parities of two groups of two add up to multiples of the group parities.
func TestAllParitiesCanBeDependent(t *testing.T) {
	c := localCode(2, 2, 2)
	data := []string{"ab", "cd", "ef", "gh"}
	shards := longLocalShards(c, data)
	requireCanDecode(t, c, []int{4, 5, 6, 7}, false)
	requireNotLocalDecoded(t, c, shards[4:])
	requireCanDecode(t, c, []int{3, 4, 5, 6, 7}, true)
	requireLocalDecoded(t, c, shards[3:], data)
}
