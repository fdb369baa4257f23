package tests

import (
	"math"
	"slices"
	"strings"
	"testing"

	"loop.example/g00294/impl"
)

func requireNoBlocks(t *testing.T, seed, blocks int) {
	t.Helper()
	if got, ok := impl.BlocksOf(seed, blocks); got != nil || ok {
		t.Errorf("BlocksOf %d with %d: %v, %v", seed, blocks, got, ok)
	}
}

func requireNoDrop(t *testing.T, blocks []string, seed int) {
	t.Helper()
	if got, ok := impl.MakeDrop(blocks, seed); got != (impl.Drop{}) || ok {
		t.Errorf("MakeDrop of %q with the seed %d: %#v, %v", blocks, seed, got, ok)
	}
}

func requireUnknownDrop(t *testing.T, d impl.Drop, blocks []string) {
	t.Helper()
	if got, ok := impl.IsDrop(d, blocks); got || ok {
		t.Errorf("IsDrop of %#v with %q: %v, %v", d, blocks, got, ok)
	}
}

// requireNotCounted checks that drops are not taken together with this number of blocks.
func requireNotCounted(t *testing.T, l []impl.Drop, blocks int) {
	t.Helper()
	if got, ok := impl.PeelDrops(l, blocks); ok || got.Blocks != nil || got.Known != nil || got.Many != 0 {
		t.Errorf("PeelDrops of %#v with %d: %#v, %v", l, blocks, got, ok)
	}
	if got, ok := impl.RankOfDrops(l, blocks); got != 0 || ok {
		t.Errorf("RankOfDrops of %#v with %d: %d, %v", l, blocks, got, ok)
	}
	requireNotSolved(t, l, blocks)
}

// requireBadDrops checks that no function takes these drops, for any number of blocks or state.
func requireBadDrops(t *testing.T, l []impl.Drop) {
	t.Helper()
	for _, blocks := range []int{-1, 0, 1, 2, 3, 12, 13} {
		requireNotCounted(t, l, blocks)
	}
	for _, length := range []int{0, 1, 3, 40, 41} {
		for _, blocks := range []int{1, 2, 3, 12} {
			texts := mixedTexts(blocks, length, 1)
			for _, mask := range []int{0, 1, 1<<blocks - 2, 1<<blocks - 1} {
				requireNoStep(t, l, someKnown(texts, mask))
			}
		}
	}
}

// requireGoodDrops checks that every function takes these drops, StepPeel if there is anything to peel.
func requireGoodDrops(t *testing.T, l []impl.Drop) {
	t.Helper()
	for _, blocks := range []int{1, 2, 3, 12} {
		requirePeeled(t, l, blocks, longPeel(l, blocks))
		requireLongSolved(t, l, blocks)
		requireLongStep(t, l, noneKnown(blocks))
	}
}

func badSeeds() []int {
	return append(unusualInts()[:4:4], -65537, -2, -1, 100001, 100002, 131073, 1<<17, 1<<32, 1<<32+7, 1<<48, math.MaxInt/75, math.MaxInt-74, math.MaxInt)
}

func badBlockCounts() []int {
	return append(unusualInts(), -12, -5, -2, 0, 13, 14, 16, 40, 65537)
}

func TestDropLimits(t *testing.T) {
	if impl.MaxBlocks != 12 || impl.MaxDrops != 40 || impl.MaxShard != 40 {
		t.Errorf("the limits are %d, %d and %d", impl.MaxBlocks, impl.MaxDrops, impl.MaxShard)
	}
}

func TestSeedsOutOfRange(t *testing.T) {
	for _, seed := range badSeeds() {
		for count := range 15 {
			requireNoBlocks(t, seed, count)
			requireNoDrop(t, mixedTexts(count, 3, 1), seed)
			requireUnknownDrop(t, dropOf(seed, "abc"), mixedTexts(count, 3, 1))
			requireUnknownDrop(t, dropOf(seed, ""), make([]string, count))
		}
		requireBadDrops(t, []impl.Drop{dropOf(seed, "abc")})
		requireBadDrops(t, []impl.Drop{dropOf(seed, "")})
		for _, place := range []int{0, 1, 7, 8} {
			l := longDrops(mixedTexts(3, 3, 1), []int{0, 1, 2, 3, 4, 5, 6, 7, 8})
			l[place].Seed = seed
			requireBadDrops(t, l)
		}
	}
	for _, seed := range []int{0, 1, 99999, 100000} {
		for count := 1; count <= 12; count++ {
			blocks := mixedTexts(count, 3, 1)
			requireBlocks(t, seed, count, longBlocks(seed, count))
			requireIsDrop(t, madeDrop(t, blocks, seed), blocks, true)
		}
		requireGoodDrops(t, []impl.Drop{dropOf(seed, "abc")})
		requireGoodDrops(t, withData([]int{3, 2, seed}, 3, 1))
	}
}

func TestNumbersOfBlocks(t *testing.T) {
	l := longDrops(mixedTexts(3, 3, 1), []int{0, 1, 2, 3, 4, 5, 6, 7, 8})
	for _, blocks := range badBlockCounts() {
		for _, seed := range []int{-1, 0, 1, 65536, 100000, 100001} {
			requireNoBlocks(t, seed, blocks)
		}
		requireNotCounted(t, l, blocks)
		requireNotCounted(t, nil, blocks)
		requireNotCounted(t, []impl.Drop{dropOf(-1, "")}, blocks)
	}
	for blocks := range 20 {
		for _, length := range []int{0, 3, 40} {
			requireListOfBlocks(t, mixedTexts(blocks, length, 1), blocks >= 1 && blocks <= 12)
		}
	}
	requireListOfBlocks(t, nil, false)
	requireListOfBlocks(t, []string{}, false)
	requireListOfBlocks(t, make([]string, 1000), false)
}

// requireListOfBlocks checks that blocks are taken, or not.
func requireListOfBlocks(t *testing.T, blocks []string, good bool) {
	t.Helper()
	for _, seed := range []int{0, 1, 2, 65536, 100000} {
		if good {
			drop := longDrop(blocks, seed)
			if got := madeDrop(t, blocks, seed); got != drop {
				t.Errorf("MakeDrop of %q with the seed %d: %#v", blocks, seed, got)
			}
			requireIsDrop(t, drop, blocks, true)
			continue
		}
		requireNoDrop(t, blocks, seed)
		for _, data := range append([]string{"", "abc"}, blocks[:min(2, len(blocks))]...) {
			requireUnknownDrop(t, dropOf(seed, data), blocks)
		}
	}
	requireUnknownDrop(t, impl.Drop{}, nil)
}

func TestLengthsOfBlocks(t *testing.T) {
	for count := 1; count <= 12; count++ {
		for _, length := range []int{0, 1, 2, 39, 40, 41, 42, 80, 256, 1000} {
			blocks := mixedTexts(count, length, 1)
			requireListOfBlocks(t, blocks, length <= 40)
			for place := range count {
				for _, other := range []int{0, 1, 2, 3, 39, 40, 41} {
					unequal := slices.Clone(blocks)
					unequal[place] = strings.Repeat("x", other)
					if count > 1 && other != length {
						requireListOfBlocks(t, unequal, false)
					}
				}
			}
		}
	}
}

func TestNumbersOfDrops(t *testing.T) {
	for count := range 45 {
		seeds := make([]int, count)
		for i := range seeds {
			seeds[i] = 3 * i
		}
		for _, length := range []int{0, 1, 40} {
			l := longDrops(mixedTexts(12, length, 1), seeds)
			if count <= 40 {
				requireGoodDrops(t, l)
			} else {
				requireBadDrops(t, l)
			}
		}
	}
	requireBadDrops(t, make([]impl.Drop, 41))
	requireBadDrops(t, make([]impl.Drop, 256))
	requireBadDrops(t, make([]impl.Drop, 10000))
	requireGoodDrops(t, make([]impl.Drop, 40))
}

func TestNoDrops(t *testing.T) {
	for _, l := range [][]impl.Drop{nil, {}, make([]impl.Drop, 0, 5)} {
		for blocks := 1; blocks <= 12; blocks++ {
			requirePeeled(t, l, blocks, noneKnown(blocks))
			requireDropRank(t, l, blocks, 0)
			requireNotSolved(t, l, blocks)
			for _, length := range []int{0, 3} {
				texts := mixedTexts(blocks, length, 1)
				requireNoStep(t, l, noneKnown(blocks))
				requireNoStep(t, l, someKnown(texts, 1))
				requireNoStep(t, l, allKnown(texts))
			}
		}
	}
}

func TestLengthsOfDrops(t *testing.T) {
	for _, length := range []int{0, 1, 2, 39, 40, 41, 42, 80, 256, 1000} {
		for count := 1; count <= 6; count++ {
			l := withData([]int{2, 0, 65536, 100000, 7, 2}[:count], length, 1)
			if length <= 40 {
				requireGoodDrops(t, l)
			} else {
				requireBadDrops(t, l)
				requireUnknownDrop(t, l[0], mixedTexts(3, 40, 1))
				requireUnknownDrop(t, l[0], mixedTexts(3, length, 1))
				requireUnknownDrop(t, l[0], nil)
			}
			for place := range count {
				for _, other := range []int{0, 1, 2, 3, 39, 40, 41} {
					unequal := slices.Clone(l)
					unequal[place].Data = strings.Repeat("x", other)
					if count > 1 && other != length {
						requireBadDrops(t, unequal)
					}
				}
			}
		}
	}
}

// usefulDrops yields a block in every state of these blocks that does not know all of them.
func usefulDrops(t *testing.T, blocks []string) []impl.Drop {
	t.Helper()
	var l []impl.Drop
	for block := range blocks {
		l = append(l, longDrop(blocks, seedFor(t, len(blocks), block)))
	}
	return l
}

func TestListsOfAStateOfUnequalLength(t *testing.T) {
	for count := 1; count <= 12; count++ {
		blocks := mixedTexts(count, 2, 1)
		l := usefulDrops(t, blocks)
		for size := range 15 {
			for _, mask := range []int{0, 1, 1<<count - 2, 1<<count - 1} {
				p := someKnown(blocks, mask)
				longer := clonedPeel(p)
				longer.Blocks = append(longer.Blocks, make([]string, 15)...)[:size]
				other := clonedPeel(p)
				other.Known = append(other.Known, make([]bool, 15)...)[:size]
				if size != count {
					requireNoStep(t, l, longer)
					requireNoStep(t, l, other)
				}
			}
		}
		requireNoStep(t, l, impl.Peel{Blocks: make([]string, count)})
		requireNoStep(t, l, impl.Peel{Known: make([]bool, count)})
	}
}

func TestNumbersOfBlocksOfAState(t *testing.T) {
	blocks := mixedTexts(12, 2, 1)
	for size := range 20 {
		for _, l := range [][]impl.Drop{usefulDrops(t, blocks), usefulDrops(t, blocks[:2]), withData([]int{2, 65536}, 2, 1)} {
			if size < 1 || size > 12 {
				requireNoStep(t, l, noneKnown(size))
				requireNoStep(t, l, allKnown(mixedTexts(size, 2, 1)))
			} else {
				requireLongStep(t, l, noneKnown(size))
				requireNoStep(t, l, allKnown(blocks[:size]))
			}
		}
	}
	requireNoStep(t, usefulDrops(t, blocks), impl.Peel{})
	requireNoStep(t, usefulDrops(t, blocks), noneKnown(1000))
}

func TestNumbersOfKnownBlocks(t *testing.T) {
	for count := 1; count <= 12; count++ {
		blocks := mixedTexts(count, 2, 1)
		l := usefulDrops(t, blocks)
		for _, mask := range []int{0, 1, 1<<count - 2, 1<<count/3 + 1, 1<<count - 1} {
			right := someKnown(blocks, mask)
			for _, many := range append(unusualInts(), -2, 0, 1, 2, right.Many-1, right.Many+1, count, count+1, 12, 13) {
				p := clonedPeel(right)
				p.Many = many
				if many != right.Many {
					requireNoStep(t, l, p)
				} else {
					requireLongStep(t, l, p)
				}
			}
		}
	}
}

// Unknown blocks are empty strings, also those that no drop needs.
func TestUnknownBlocksWithText(t *testing.T) {
	for count := 1; count <= 12; count++ {
		blocks := mixedTexts(count, 2, 1)
		l := usefulDrops(t, blocks)
		for mask := range min(1<<count, 70) {
			right := someKnown(blocks, mask)
			requireLongStep(t, l, right)
			for block := range count {
				for _, text := range []string{"\x00", "ab", "abc", blocks[block], strings.Repeat("x", 40)} {
					p := clonedPeel(right)
					p.Blocks[block] = text
					if !p.Known[block] {
						requireNoStep(t, l, p)
					}
				}
			}
		}
	}
}

// All known blocks have the length of the drops, also those that no drop needs.
func TestKnownBlocksOfAnotherLength(t *testing.T) {
	for count := 2; count <= 12; count++ {
		for _, length := range []int{0, 1, 2, 39, 40} {
			blocks := mixedTexts(count, length, 1)
			l := usefulDrops(t, blocks)
			for _, mask := range []int{1, 2, 1<<count - 2, 1<<count/3 + 1} {
				right := someKnown(blocks, mask)
				requireLongStep(t, l, right)
				for block := range count {
					for _, other := range []int{0, 1, 2, 3, 38, 39, 40, 41} {
						p := clonedPeel(right)
						p.Blocks[block] = strings.Repeat("x", other)
						if p.Known[block] && other != length {
							requireNoStep(t, l, p)
							requireNoStep(t, l[:1], p)
						}
					}
				}
			}
			for _, other := range []int{0, 1, 2, 39, 40, 41} {
				if other != length {
					requireNoStep(t, l, someKnown(mixedTexts(count, other, 1), 1))
					requireNoStep(t, l, someKnown(mixedTexts(count, other, 1), 1<<count-2))
				}
			}
		}
	}
}

func TestNothingIsLeftToPeel(t *testing.T) {
	for count := 1; count <= 12; count++ {
		for _, length := range []int{0, 2, 40} {
			blocks := mixedTexts(count, length, 1)
			for _, seeds := range seedLists() {
				requireNoStep(t, longDrops(blocks, seeds), allKnown(blocks))
			}
		}
	}
}

func TestNoDropHasExactlyOneUnknownBlock(t *testing.T) {
	blocks := mixedTexts(6, 3, 1)
	l := longDrops(blocks, []int{seedFor(t, 6, 0, 1), seedFor(t, 6, 2, 3, 4), seedFor(t, 6, 0, 1, 4, 5)})
	for mask := range 1 << 6 {
		useful := mask&0b11 == 0b01 || mask&0b11 == 0b10
		for _, set := range []int{0b011100, 0b110011} {
			left := set &^ mask
			useful = useful || left != 0 && left&(left-1) == 0
		}
		if useful {
			requireLongStep(t, l, someKnown(blocks, mask))
		} else {
			requireNoStep(t, l, someKnown(blocks, mask))
		}
	}
}

// roomyPeel has spare memory behind both lists.
type roomyPeel struct {
	peel   impl.Peel
	blocks []string
	known  []bool
}

func newRoomyPeel(p impl.Peel) roomyPeel {
	room := roomyPeel{peel: p}
	room.peel.Blocks, room.blocks = roomy(p.Blocks, "spare")
	room.peel.Known, room.known = roomy(p.Known, true)
	return room
}

func (r roomyPeel) requireUnmodified(t *testing.T, call func()) {
	t.Helper()
	requireKeptList(t, r.blocks, func() { requireKeptList(t, r.known, call) })
}

func testDropLists() [][]impl.Drop {
	blocks := mixedTexts(3, 2, 1)
	right := longDrops(blocks, []int{0, 1, 2, 3, 4, 5, 6, 7, 8, 9})
	return [][]impl.Drop{
		nil, {}, right, right[:1], right[3:], slices.Repeat(right, 4), slices.Repeat(right, 5), withData([]int{2, 2, 0, 65536}, 2, 1),
		{dropOf(-1, "ab")}, {right[0], dropOf(100001, "ab")}, {right[0], dropOf(2, "abc")}, {dropOf(2, "")}, {dropOf(2, zeroText(41))},
		longDrops(mixedTexts(12, 40, 1), []int{0, 1, 2, 3, 4, 5, 6, 7, 8, 9}),
	}
}

func testPeels() []impl.Peel {
	blocks, long := mixedTexts(3, 2, 1), mixedTexts(12, 40, 1)
	peels := []impl.Peel{
		{}, {Blocks: []string{}, Known: []bool{}}, {Blocks: []string{""}}, {Known: []bool{false}}, noneKnown(1), noneKnown(12), noneKnown(13),
		someKnown(long, 1), someKnown(long, 0b111011101110), allKnown(long), someKnown(mixedTexts(3, 41, 1), 3),
		{Blocks: []string{"ab", "cd", ""}, Known: []bool{true, false, false}, Many: 1},
		{Blocks: []string{"ab", "", ""}, Known: []bool{true, false, false}, Many: 2},
		{Blocks: []string{"ab", "c", ""}, Known: []bool{true, true, false}, Many: 2},
		{Blocks: []string{"ab", ""}, Known: []bool{true, false, false}, Many: 1},
	}
	for mask := range 8 {
		peels = append(peels, someKnown(blocks, mask))
	}
	return peels
}

func TestDropArgumentsAreNotModified(t *testing.T) {
	for _, list := range testDropLists() {
		l, memory := roomy(list, dropOf(2, "spare"))
		requireKeptList(t, memory, func() {
			for blocks := -1; blocks <= 14; blocks++ {
				impl.PeelDrops(l, blocks)
				impl.SolveDrops(l, blocks)
				impl.RankOfDrops(l, blocks)
			}
			for _, p := range testPeels() {
				state := newRoomyPeel(p)
				state.requireUnmodified(t, func() { impl.StepPeel(l, state.peel) })
			}
		})
	}
	for _, list := range [][]string{nil, {}, {""}, {"ab"}, {"ab", "c"}, mixedTexts(3, 2, 1), mixedTexts(12, 40, 1), mixedTexts(13, 2, 1), mixedTexts(2, 41, 1)} {
		blocks, memory := roomy(list, "spare")
		requireKeptList(t, memory, func() {
			for _, seed := range []int{-1, 0, 1, 2, 3, 100000, 100001} {
				impl.MakeDrop(blocks, seed)
				for _, data := range []string{"", "ab", "abc"} {
					impl.IsDrop(dropOf(seed, data), blocks)
				}
			}
		})
	}
}

// What stands behind a list would make it valid or invalid, or change a result, if it were read.
func TestSpareDropsAreNotRead(t *testing.T) {
	for _, behind := range []impl.Drop{dropOf(-1, "x"), dropOf(2, zeroText(41)), dropOf(2, "ab"), dropOf(65536, "ab")} {
		for _, seeds := range seedLists() {
			l, _ := roomy(withData(seeds, 2, 1), behind)
			for _, blocks := range []int{1, 3, 5} {
				requirePeeled(t, l, blocks, longPeel(l, blocks))
				requireLongSolved(t, l, blocks)
				requireLongStep(t, l, noneKnown(blocks))
			}
		}
	}
	for count := range 15 {
		for _, behind := range []string{"", "ab", "abc", strings.Repeat("x", 41)} {
			blocks, _ := roomy(mixedTexts(count, 2, 1), behind)
			requireListOfBlocks(t, blocks, count >= 1 && count <= 12)
		}
	}
}

func TestSpareStatesAreNotRead(t *testing.T) {
	for count := 1; count <= 12; count++ {
		blocks := mixedTexts(count, 2, 1)
		l := usefulDrops(t, blocks)
		for _, mask := range []int{0, 1, 1<<count - 2, 1<<count/3 + 1, 1<<count - 1} {
			requireLongStep(t, l, newRoomyPeel(someKnown(blocks, mask)).peel)
			p := someKnown(blocks, mask)
			shorter := impl.Peel{Blocks: p.Blocks, Known: p.Known[:count-1], Many: p.Many}
			requireNoStep(t, l, shorter)
			shorter = impl.Peel{Blocks: p.Blocks[:count-1], Known: p.Known, Many: p.Many}
			requireNoStep(t, l, shorter)
		}
	}
}

// requireOwnPeel writes to both lists of a result and looks at the other one, at the arguments and at other results.
func requireOwnPeel(t *testing.T, call func() (impl.Peel, bool), p roomyPeel, memory []impl.Drop) {
	t.Helper()
	first, _ := call()
	second, ok := call()
	want := clonedPeel(second)
	p.requireUnmodified(t, func() {
		requireKeptList(t, memory, func() {
			clear(first.Blocks[:cap(first.Blocks)])
			clear(first.Known[:cap(first.Known)])
			if !ok || !samePeel(second, want) {
				t.Error("the states of two calls share memory")
			}
			clear(second.Blocks[:cap(second.Blocks)])
			clear(second.Known[:cap(second.Known)])
		})
	})
	if again, ok := call(); !ok || !samePeel(again, want) {
		t.Error("writing to a state changed the next one")
	}
}

func TestDropResultsShareNoMemory(t *testing.T) {
	for count := 1; count <= 12; count++ {
		blocks := mixedTexts(count, 3, 1)
		l, memory := roomy(usefulDrops(t, blocks), dropOf(2, "spare"))
		requireOwnList(t, func() ([]int, bool) { return impl.BlocksOf(3, count) }, []int{})
		requireOwnList(t, func() ([]string, bool) { return impl.SolveDrops(l, count) }, memory)
		none := newRoomyPeel(noneKnown(count))
		requireOwnPeel(t, func() (impl.Peel, bool) { return impl.PeelDrops(l, count) }, none, memory)
		requireOwnPeel(t, func() (impl.Peel, bool) { return impl.PeelDrops(nil, count) }, none, memory)
		for mask := range min(1<<count-1, 40) {
			p := newRoomyPeel(someKnown(blocks, mask))
			requireOwnPeel(t, func() (impl.Peel, bool) { return impl.StepPeel(l, p.peel) }, p, memory)
		}
	}
}

func dropTexts(l []impl.Drop) []string {
	var texts []string
	for _, drop := range l {
		texts = append(texts, drop.Data)
	}
	return texts
}

// A drop of one block is equal to it, and known blocks stay as they are: both could be handed back in
// the memory of the argument.
func TestDropTextsShareNoMemory(t *testing.T) {
	for count := 1; count <= 12; count++ {
		blocks := mixedTexts(count, 12, 1)
		for seed := range 100 {
			requireApart(t, "MakeDrop", dropTexts([]impl.Drop{madeDrop(t, blocks, seed)}), blocks)
		}
		l := usefulDrops(t, blocks)
		given := slices.Concat(blocks, dropTexts(l))
		requireApart(t, "PeelDrops", peeled(t, l, count).Blocks, given)
		solved, _ := impl.SolveDrops(l, count)
		requireApart(t, "SolveDrops", solved, given)
		for mask := range min(1<<count-1, 200) {
			next, _ := impl.StepPeel(l, someKnown(blocks, mask))
			requireApart(t, "StepPeel", next.Blocks, given)
		}
	}
}

func TestDropCallsKeepNoState(t *testing.T) {
	blocks := mixedTexts(5, 3, 1)
	l := usefulDrops(t, blocks)
	for range 2 {
		requireNoBlocks(t, -1, 5)
		requireNoBlocks(t, 0, 13)
		requireNoDrop(t, nil, 0)
		requireUnknownDrop(t, l[0], nil)
		requireBadDrops(t, make([]impl.Drop, 41))
		requireNoStep(t, l, allKnown(blocks))
		requireNotSolved(t, l[1:], 5)
		requireBlocks(t, 0, 5, []int{0, 2, 4})
		requireIsDrop(t, l[0], blocks, true)
		requireDropRank(t, l, 5, 5)
		requirePeeled(t, l, 5, allKnown(blocks))
		requirePeeled(t, l[1:], 5, someKnown(blocks, 0b11110))
		requireSolved(t, l, 5, blocks)
		requireStep(t, l, noneKnown(5), someKnown(blocks, 1))
	}
}
