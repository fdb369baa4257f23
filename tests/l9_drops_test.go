package tests

import (
	"slices"
	"strings"
	"testing"

	"loop.example/g00294/impl"
)

// numbersAfter yields the numbers of a seed: with 1 added, each is 75 times the one before it.
func numbersAfter(seed int) func() int {
	more := (seed + 1) % 65537
	return func() int {
		more = more * 75 % 65537
		return (more + 65536) % 65537
	}
}

func longBlocks(seed, blocks int) []int {
	number := numbersAfter(seed)
	size := min(1+number()%4, blocks)
	var chosen []int
	for range 200 {
		if len(chosen) == size {
			break
		}
		if block := number() % blocks; !slices.Contains(chosen, block) {
			chosen = append(chosen, block)
		}
	}
	slices.Sort(chosen)
	return chosen
}

func zeroText(length int) string { return strings.Repeat("\x00", length) }

// plusText adds a text to an equally long one.
func plusText(text, other string) string {
	sum := []byte(text)
	for i := range sum {
		sum[i] ^= other[i]
	}
	return string(sum)
}

func longTextSum(length int, texts []string) string {
	sum := zeroText(length)
	for _, text := range texts {
		sum = plusText(sum, text)
	}
	return sum
}

func longDrop(blocks []string, seed int) impl.Drop {
	var parts []string
	for _, block := range longBlocks(seed, len(blocks)) {
		parts = append(parts, blocks[block])
	}
	return dropOf(seed, longTextSum(len(blocks[0]), parts))
}

func longDrops(blocks []string, seeds []int) []impl.Drop {
	var l []impl.Drop
	for _, seed := range seeds {
		l = append(l, longDrop(blocks, seed))
	}
	return l
}

// withData gives the drops of these seeds any data, so that they need not agree with each other.
func withData(seeds []int, length, seed int) []impl.Drop {
	texts := mixedTexts(len(seeds), length, seed)
	var l []impl.Drop
	for i, number := range seeds {
		l = append(l, dropOf(number, texts[i]))
	}
	return l
}

// maskOf has a bit for each of the blocks.
func maskOf(list []int) int {
	mask := 0
	for _, block := range list {
		mask |= 1 << block
	}
	return mask
}

// seedsOf returns a seed for each set of at most four blocks, by its mask.
func seedsOf(blocks int) map[int]int {
	seeds := map[int]int{}
	for seed := range 100001 {
		if mask := maskOf(longBlocks(seed, blocks)); seeds[mask] == 0 {
			seeds[mask] = seed
		}
	}
	return seeds
}

// seedFor returns the seed of drops that combine these blocks.
func seedFor(t *testing.T, blocks int, set ...int) int {
	t.Helper()
	for seed := range 100001 {
		if slices.Equal(longBlocks(seed, blocks), set) {
			return seed
		}
	}
	t.Fatalf("no seed combines %v of %d blocks", set, blocks)
	return 0
}

func dropOf(seed int, data string) impl.Drop {
	return impl.Drop{Seed: seed, Data: data}
}

// longSums returns, by their masks, the sums of the data of drops whose rows are independent, and the
// places of these drops: what is among the sums of the preceding drops is left out.
func longSums(l []impl.Drop, blocks int) (texts []string, used []int) {
	texts = make([]string, 1<<blocks)
	if len(l) == 0 {
		return texts, nil
	}
	texts[0] = zeroText(len(l[0].Data))
	reached := []int{0}
	for i, drop := range l {
		mask := maskOf(longBlocks(drop.Seed, blocks))
		if slices.Contains(reached, mask) {
			continue
		}
		used = append(used, i)
		for _, other := range slices.Clone(reached) {
			texts[other^mask] = plusText(texts[other], drop.Data)
			reached = append(reached, other^mask)
		}
	}
	return texts, used
}

func longSolved(l []impl.Drop, blocks int) ([]string, bool) {
	sums, used := longSums(l, blocks)
	if len(used) < blocks {
		return nil, false
	}
	texts := make([]string, blocks)
	for block := range texts {
		texts[block] = sums[1<<block]
	}
	return texts, true
}

func noneKnown(blocks int) impl.Peel {
	return impl.Peel{Blocks: make([]string, blocks), Known: make([]bool, blocks)}
}

func allKnown(blocks []string) impl.Peel {
	return someKnown(blocks, 1<<len(blocks)-1)
}

// someKnown knows the blocks of a mask.
func someKnown(blocks []string, mask int) impl.Peel {
	p := noneKnown(len(blocks))
	for block := range blocks {
		if mask>>block&1 == 1 {
			p = withKnown(p, block, blocks[block])
		}
	}
	return p
}

func withKnown(p impl.Peel, block int, text string) impl.Peel {
	next := clonedPeel(p)
	next.Blocks[block], next.Known[block] = text, true
	next.Many++
	return next
}

func clonedPeel(p impl.Peel) impl.Peel {
	return impl.Peel{Blocks: slices.Clone(p.Blocks), Known: slices.Clone(p.Known), Many: p.Many}
}

func samePeel(a, b impl.Peel) bool {
	return a.Many == b.Many && slices.Equal(a.Blocks, b.Blocks) && slices.Equal(a.Known, b.Known)
}

func longStep(l []impl.Drop, p impl.Peel) (impl.Peel, bool) {
	for _, drop := range l {
		text := drop.Data
		var unknown []int
		for _, block := range longBlocks(drop.Seed, len(p.Blocks)) {
			if !p.Known[block] {
				unknown = append(unknown, block)
			} else {
				text = plusText(text, p.Blocks[block])
			}
		}
		if len(unknown) == 1 {
			return withKnown(p, unknown[0], text), true
		}
	}
	return impl.Peel{}, false
}

func longPeel(l []impl.Drop, blocks int) impl.Peel {
	p := noneKnown(blocks)
	for next, ok := longStep(l, p); ok; next, ok = longStep(l, p) {
		p = next
	}
	return p
}

// seedLists holds lists of 0 to MaxDrops seeds: neighbours, distant ones and equal ones.
func seedLists() [][]int {
	var lists [][]int
	for _, count := range []int{0, 1, 2, 3, 4, 6, 9, 12, 15, 20, 30, 39, 40} {
		for _, step := range []int{1, 2477, 31607, 65537} {
			for _, first := range []int{0, 500, 65530, 99961} {
				list := make([]int, count)
				for i := range list {
					list[i] = (first + i*step) % 100001
				}
				lists = append(lists, list)
			}
		}
		lists = append(lists, slices.Repeat([]int{count}, count))
	}
	return lists
}

func madeDrop(t *testing.T, blocks []string, seed int) impl.Drop {
	t.Helper()
	drop, ok := impl.MakeDrop(blocks, seed)
	if !ok {
		t.Fatalf("MakeDrop of %q with the seed %d fails", blocks, seed)
	}
	return drop
}

func madeDrops(t *testing.T, blocks []string, seeds []int) []impl.Drop {
	t.Helper()
	var l []impl.Drop
	for _, seed := range seeds {
		l = append(l, madeDrop(t, blocks, seed))
	}
	return l
}

func peeled(t *testing.T, l []impl.Drop, blocks int) impl.Peel {
	t.Helper()
	p, ok := impl.PeelDrops(l, blocks)
	if !ok || len(p.Blocks) != blocks || len(p.Known) != blocks {
		t.Fatalf("PeelDrops of %#v with %d: %#v, %v", l, blocks, p, ok)
	}
	return p
}

func requireBlocks(t *testing.T, seed, blocks int, want []int) {
	t.Helper()
	if got, ok := impl.BlocksOf(seed, blocks); !ok || !slices.Equal(got, want) {
		t.Fatalf("BlocksOf %d with %d: %v, %v, want %v", seed, blocks, got, ok, want)
	}
}

func requirePeeled(t *testing.T, l []impl.Drop, blocks int, want impl.Peel) {
	t.Helper()
	if got := peeled(t, l, blocks); !samePeel(got, want) {
		t.Fatalf("PeelDrops of %#v with %d: %#v, want %#v", l, blocks, got, want)
	}
}

func requireStep(t *testing.T, l []impl.Drop, p, want impl.Peel) {
	t.Helper()
	if got, ok := impl.StepPeel(l, p); !ok || !samePeel(got, want) {
		t.Fatalf("StepPeel of %#v with %#v: %#v, %v, want %#v", l, p, got, ok, want)
	}
}

func requireNoStep(t *testing.T, l []impl.Drop, p impl.Peel) {
	t.Helper()
	if got, ok := impl.StepPeel(l, p); ok || got.Blocks != nil || got.Known != nil || got.Many != 0 {
		t.Fatalf("StepPeel of %#v with %#v: %#v, %v", l, p, got, ok)
	}
}

// requireLongStep checks a step, or that there is none, against the reference.
func requireLongStep(t *testing.T, l []impl.Drop, p impl.Peel) {
	t.Helper()
	if want, ok := longStep(l, p); ok {
		requireStep(t, l, p, want)
	} else {
		requireNoStep(t, l, p)
	}
}

func requireDropRank(t *testing.T, l []impl.Drop, blocks, want int) {
	t.Helper()
	if got, ok := impl.RankOfDrops(l, blocks); !ok || got != want {
		t.Fatalf("RankOfDrops of %#v with %d: %d, %v, want %d", l, blocks, got, ok, want)
	}
}

func requireSolved(t *testing.T, l []impl.Drop, blocks int, want []string) {
	t.Helper()
	if got, ok := impl.SolveDrops(l, blocks); !ok || !slices.Equal(got, want) {
		t.Fatalf("SolveDrops of %#v with %d: %q, %v, want %q", l, blocks, got, ok, want)
	}
}

func requireNotSolved(t *testing.T, l []impl.Drop, blocks int) {
	t.Helper()
	if got, ok := impl.SolveDrops(l, blocks); ok || got != nil {
		t.Fatalf("SolveDrops of %#v with %d: %q, %v", l, blocks, got, ok)
	}
}

// requireLongSolved checks the blocks of drops and their rank against the reference, and returns the blocks.
func requireLongSolved(t *testing.T, l []impl.Drop, blocks int) ([]string, bool) {
	t.Helper()
	_, used := longSums(l, blocks)
	requireDropRank(t, l, blocks, len(used))
	want, ok := longSolved(l, blocks)
	if ok {
		requireSolved(t, l, blocks, want)
	} else {
		requireNotSolved(t, l, blocks)
	}
	return want, ok
}

func requireIsDrop(t *testing.T, d impl.Drop, blocks []string, want bool) {
	t.Helper()
	if got, ok := impl.IsDrop(d, blocks); !ok || got != want {
		t.Fatalf("IsDrop of %#v with %q: %v, %v, want %v", d, blocks, got, ok, want)
	}
}

func TestDropExamples(t *testing.T) {
	requireBlocks(t, 0, 5, []int{0, 2, 4})
	blocks := []string{"ab", "cd", "ef", "gh", "ij"}
	drop := madeDrop(t, blocks, 0)
	if want := dropOf(0, string([]byte{'a' ^ 'e' ^ 'i', 'b' ^ 'f' ^ 'j'})); drop != want {
		t.Errorf("MakeDrop: %#v, want %#v", drop, want)
	}
	requireIsDrop(t, drop, blocks, true)
}

func TestBlocksByHand(t *testing.T) {
	for _, c := range []struct {
		seed        int
		two, twelve []int
	}{
		{0, []int{0, 1}, []int{1, 8, 10}},
		{1, []int{0, 1}, []int{4, 5}},
		{2, []int{0}, []int{2}},
		{3, []int{0, 1}, []int{2, 4, 6, 11}},
		{7, []int{0, 1}, []int{5, 8, 9, 11}},
		{65534, []int{0, 1}, []int{0, 10, 11}},
		{65535, []int{0, 1}, []int{5, 7}},
		{65536, []int{0}, []int{4}}, // the only seed whose numbers are all the same
		{65537, []int{0, 1}, []int{1, 8, 10}},
		{65538, []int{0, 1}, []int{4, 5}},
		{99999, []int{0, 1}, []int{1, 3}},
		{100000, []int{1}, []int{5}},
	} {
		requireBlocks(t, c.seed, 1, []int{0})
		requireBlocks(t, c.seed, 2, c.two)
		requireBlocks(t, c.seed, 12, c.twelve)
	}
}

func TestBlocksOfAllSeeds(t *testing.T) {
	for blocks := 1; blocks <= 12; blocks++ {
		for seed := range 100001 {
			requireBlocks(t, seed, blocks, longBlocks(seed, blocks))
		}
	}
}

// The first number asks for up to four blocks, of which a drop has no more than there are.
func TestMoreBlocksThanThereAre(t *testing.T) {
	for seed := range 3000 {
		wanted := 1 + numbersAfter(seed)()%4
		for blocks := 1; blocks <= 12; blocks++ {
			got, ok := impl.BlocksOf(seed, blocks)
			if !ok || len(got) != min(wanted, blocks) || !slices.IsSorted(got) || len(slices.Compact(slices.Clone(got))) != len(got) {
				t.Fatalf("BlocksOf %d with %d: %v, %v, want %d of them", seed, blocks, got, ok, wanted)
			}
			if blocks <= wanted {
				requireBlocks(t, seed, blocks, []int{0, 1, 2, 3}[:blocks])
			}
		}
	}
}

// Seeds with a distance of 65537 have the same numbers.
func TestSeedsWithTheSameNumbers(t *testing.T) {
	for seed := 65537; seed <= 100000; seed += 13 {
		for _, blocks := range []int{1, 2, 5, 12} {
			want, _ := impl.BlocksOf(seed-65537, blocks)
			requireBlocks(t, seed, blocks, want)
		}
	}
	blocks := mixedTexts(5, 3, 1)
	drop := madeDrop(t, blocks, 7)
	requireIsDrop(t, dropOf(65544, drop.Data), blocks, true)
}

func TestMadeDrops(t *testing.T) {
	for count := 1; count <= 12; count++ {
		for _, blocks := range dataOfShape(count, 0, 1, 2, 39, 40) {
			for seed := 0; seed <= 100000; seed += 877 {
				want := longDrop(blocks, seed)
				if got := madeDrop(t, blocks, seed); got != want {
					t.Fatalf("MakeDrop of %q with the seed %d: %#v, want %#v", blocks, seed, got, want)
				}
				requireIsDrop(t, want, blocks, true)
			}
		}
	}
}

// A drop depends on its own blocks and on no others.
func TestBlocksOfADropAlone(t *testing.T) {
	for count := 1; count <= 12; count++ {
		blocks := mixedTexts(count, 5, count)
		for seed := range 200 {
			drop := madeDrop(t, blocks, seed)
			for block := range count {
				other := slices.Clone(blocks)
				other[block] = plusText(other[block], "\x00\x00\x10\x00\x00")
				want := drop
				if slices.Contains(longBlocks(seed, count), block) {
					want.Data = plusText(drop.Data, "\x00\x00\x10\x00\x00")
				}
				if got := madeDrop(t, other, seed); got != want {
					t.Fatalf("MakeDrop of %q with the seed %d: %#v, want %#v", other, seed, got, want)
				}
				requireIsDrop(t, drop, other, want == drop)
			}
		}
	}
}

// requireOwnBlocks checks that what is peeled are the blocks themselves, and that the others are empty.
func requireOwnBlocks(t *testing.T, p impl.Peel, blocks []string) {
	t.Helper()
	many := 0
	for block, known := range p.Known {
		want := ""
		if known {
			want = blocks[block]
			many++
		}
		if p.Blocks[block] != want {
			t.Fatalf("block %d of %#v is not %q", block, p, want)
		}
	}
	if p.Many != many {
		t.Fatalf("%#v knows %d blocks", p, many)
	}
}

func TestPeeledBlocksAreTheBlocks(t *testing.T) {
	all, some, none := 0, 0, 0
	for count := 1; count <= 12; count++ {
		for _, length := range []int{0, 1, 3, 40} {
			blocks := mixedTexts(count, length, count+length)
			for _, seeds := range seedLists() {
				l := madeDrops(t, blocks, seeds)
				p := peeled(t, l, count)
				requireOwnBlocks(t, p, blocks)
				if !samePeel(p, longPeel(l, count)) {
					t.Fatalf("PeelDrops of %#v with %d: %#v, want %#v", l, count, p, longPeel(l, count))
				}
				switch p.Many {
				case count:
					requireSolved(t, l, count, blocks)
					all++
				case 0:
					none++
				default:
					some++
				}
			}
		}
	}
	if all < 1000 || some < 1000 || none < 100 {
		t.Errorf("all, some or no blocks are known %d, %d and %d times", all, some, none)
	}
}

func TestStepsOfPeeling(t *testing.T) {
	for count := 1; count <= 12; count++ {
		for _, length := range []int{0, 2, 40} {
			blocks := mixedTexts(count, length, 3*count+length)
			for _, seeds := range seedLists() {
				requireSteps(t, longDrops(blocks, seeds), blocks)
			}
		}
	}
}

// requireSteps goes step by step to what PeelDrops returns, with one more block each time.
func requireSteps(t *testing.T, l []impl.Drop, blocks []string) {
	t.Helper()
	state := noneKnown(len(blocks))
	for range len(blocks) + 1 {
		next, ok := impl.StepPeel(l, state)
		if !ok {
			break
		}
		requireOwnBlocks(t, next, blocks)
		if next.Many != state.Many+1 {
			t.Fatalf("StepPeel of %#v with %#v: %#v", l, state, next)
		}
		for block, known := range state.Known {
			if known && !next.Known[block] {
				t.Fatalf("StepPeel of %#v with %#v: %#v without block %d", l, state, next, block)
			}
		}
		state = next
	}
	requireNoStep(t, l, state)
	requirePeeled(t, l, len(blocks), state)
}

func TestSolvedBlocksAreTheBlocks(t *testing.T) {
	solved, unpeeled, unsolved := 0, 0, 0
	for count := 1; count <= 12; count++ {
		for _, length := range []int{0, 1, 40} {
			blocks := mixedTexts(count, length, 5*count+length)
			for _, seeds := range seedLists() {
				l := madeDrops(t, blocks, seeds)
				got, ok := requireLongSolved(t, l, count)
				if !ok {
					unsolved++
					continue
				}
				if !slices.Equal(got, blocks) {
					t.Fatalf("SolveDrops of %#v: %q, want %q", l, got, blocks)
				}
				solved++
				if peeled(t, l, count).Many < count {
					unpeeled++
				}
			}
		}
	}
	if solved < 1000 || unpeeled < 10 || unsolved < 1000 {
		t.Errorf("solved %d times, %d times without peeling, not solved %d times", solved, unpeeled, unsolved)
	}
}

// Every set of blocks is tried in every place of a list of drops, whose data agree or do not.
func TestAllListsOfFewDrops(t *testing.T) {
	for _, c := range []struct{ blocks, drops int }{{1, 4}, {2, 4}, {3, 4}, {4, 3}} {
		seeds := seedsOf(c.blocks)
		blocks := mixedTexts(c.blocks, 2, 7)
		for drops := range c.drops + 1 {
			digits := make([]int, drops)
			for more := true; more; more = nextDigits(digits, 1<<c.blocks-1) {
				list := make([]int, drops)
				for i, digit := range digits {
					list[i] = seeds[digit+1]
				}
				for _, l := range [][]impl.Drop{longDrops(blocks, list), withData(list, 2, 9)} {
					requirePeeled(t, l, c.blocks, longPeel(l, c.blocks))
					requireLongSolved(t, l, c.blocks)
				}
			}
		}
	}
}

// Every set of known blocks meets every list of few drops.
func TestStepsFromAllStates(t *testing.T) {
	for _, c := range []struct{ blocks, drops int }{{1, 2}, {2, 3}, {3, 3}, {4, 2}} {
		seeds := seedsOf(c.blocks)
		blocks := mixedTexts(c.blocks, 2, 7)
		for drops := range c.drops + 1 {
			digits := make([]int, drops)
			for more := true; more; more = nextDigits(digits, 1<<c.blocks-1) {
				list := make([]int, drops)
				for i, digit := range digits {
					list[i] = seeds[digit+1]
				}
				for mask := range 1 << c.blocks {
					requireLongStep(t, longDrops(blocks, list), someKnown(blocks, mask))
					requireLongStep(t, withData(list, 2, 9), someKnown(blocks, mask))
				}
			}
		}
	}
}

// Drops that do not agree with each other are peeled and solved in their order.
func TestDropsThatDoNotAgree(t *testing.T) {
	for count := 1; count <= 12; count++ {
		for i, seeds := range seedLists() {
			l := withData(seeds, 3, i)
			requirePeeled(t, l, count, longPeel(l, count))
			if count <= 8 || i%4 == 0 {
				requireLongSolved(t, l, count)
			}
		}
	}
}

func TestTheFirstUsableDropIsTaken(t *testing.T) {
	three, one := seedFor(t, 5, 3), seedFor(t, 5, 1)
	start := noneKnown(5)
	a, b, other := dropOf(three, "a"), dropOf(three, "b"), dropOf(one, "c")
	requireStep(t, []impl.Drop{a, b}, start, withKnown(start, 3, "a"))
	requireStep(t, []impl.Drop{b, a}, start, withKnown(start, 3, "b"))
	requireStep(t, []impl.Drop{a, other}, start, withKnown(start, 3, "a"))
	requireStep(t, []impl.Drop{other, a}, start, withKnown(start, 1, "c"))
	requirePeeled(t, []impl.Drop{a, other, b}, 5, withKnown(withKnown(start, 3, "a"), 1, "c"))
	// A drop of two blocks is of use only when one of them is known.
	both := seedFor(t, 5, 0, 4)
	x, y := dropOf(both, "x"), dropOf(both, "y")
	requireNoStep(t, []impl.Drop{x, y}, start)
	requireStep(t, []impl.Drop{x, y, b, other, a}, start, withKnown(start, 3, "b"))
	known := withKnown(start, 4, "d")
	requireStep(t, []impl.Drop{x, y, a}, known, withKnown(known, 0, string([]byte{'x' ^ 'd'})))
	requireStep(t, []impl.Drop{y, x, a}, known, withKnown(known, 0, string([]byte{'y' ^ 'd'})))
}

// Neither the known blocks of a drop that is not usable nor those of no drop have a part in a block.
func TestOnlyKnownBlocksOfTheDropAreAdded(t *testing.T) {
	blocks := mixedTexts(12, 4, 3)
	seeds := seedsOf(12)
	useless, usable := dropOf(seeds[0b1111], "????"), longDrop(blocks, seeds[0b1110000])
	known := someKnown(blocks, 0b111100110011)
	requireStep(t, []impl.Drop{useless, usable}, known, withKnown(known, 6, blocks[6]))
	requireStep(t, []impl.Drop{useless, useless, usable, useless}, known, withKnown(known, 6, blocks[6]))
	requireStep(t, []impl.Drop{usable, useless}, known, withKnown(known, 6, blocks[6]))
	allButOne := someKnown(blocks, 0b111111111110)
	alone := dropOf(seeds[1], "data")
	requireStep(t, []impl.Drop{usable, alone}, allButOne, withKnown(allButOne, 0, "data"))
	requireNoStep(t, []impl.Drop{usable, useless}, allKnown(blocks))
}

// The known blocks need not be those from which the drops were made.
func TestKnownBlocksAreTakenAsTheyAre(t *testing.T) {
	seeds := seedsOf(12)
	for size := 1; size <= 4; size++ {
		for _, set := range choices(12, size) {
			drop := dropOf(seeds[maskOf(set)], "data")
			texts := mixedTexts(12, 4, set[0])
			for _, block := range set {
				p := someKnown(texts, 1<<12-1-1<<block)
				text := drop.Data
				for _, other := range without(set, block) {
					text = plusText(text, texts[other])
				}
				requireStep(t, []impl.Drop{drop}, p, withKnown(p, block, text))
			}
		}
	}
}

// Peeling goes through a chain of drops in any order; without its first one nothing is known.
func TestAChainOfDrops(t *testing.T) {
	blocks := mixedTexts(12, 6, 2)
	chain := []int{seedFor(t, 12, 0)}
	for block := range 11 {
		chain = append(chain, seedFor(t, 12, block, block+1))
	}
	l := longDrops(blocks, chain)
	for turn := range l {
		turned := slices.Concat(l[turn:], l[:turn])
		for range 2 {
			requirePeeled(t, turned, 12, allKnown(blocks))
			requireSolved(t, turned, 12, blocks)
			slices.Reverse(turned)
		}
	}
	requirePeeled(t, l[1:], 12, noneKnown(12))
	requireDropRank(t, l[1:], 12, 11)
	requireNotSolved(t, l[1:], 12)
	for missing := 1; missing < 12; missing++ {
		rest := slices.Delete(slices.Clone(l), missing, missing+1)
		requirePeeled(t, rest, 12, someKnown(blocks, 1<<missing-1))
		requireDropRank(t, rest, 12, 11)
		requireNotSolved(t, rest, 12)
	}
}

// Three sums of two blocks and one of all three determine them, though none can be peeled.
func TestSolvingWithoutPeeling(t *testing.T) {
	blocks := mixedTexts(3, 5, 4)
	l := longDrops(blocks, []int{seedFor(t, 3, 0, 1), seedFor(t, 3, 1, 2), seedFor(t, 3, 0, 2), seedFor(t, 3, 0, 1, 2)})
	requirePeeled(t, l, 3, noneKnown(3))
	requireSolved(t, l, 3, blocks)
	// The sum of the first two is the third.
	requireDropRank(t, l[:3], 3, 2)
	requireNotSolved(t, l[:3], 3)
}

func TestRanksOfDrops(t *testing.T) {
	for blocks := 1; blocks <= 12; blocks++ {
		requireDropRank(t, nil, blocks, 0)
		requireDropRank(t, []impl.Drop{}, blocks, 0)
		for seed := range 300 {
			drop := dropOf(seed, "x")
			requireDropRank(t, []impl.Drop{drop}, blocks, 1)
			requireDropRank(t, []impl.Drop{drop, drop}, blocks, 1)
			requireDropRank(t, []impl.Drop{drop, dropOf(seed, "y")}, blocks, 1)
			requireDropRank(t, slices.Repeat([]impl.Drop{drop}, 40), blocks, 1)
		}
		seeds := seedsOf(blocks)
		var single []int
		for block := range blocks {
			single = append(single, seeds[1<<block])
		}
		for size := range blocks + 1 {
			requireDropRank(t, withData(single[:size], 1, 1), blocks, size)
		}
		requireDropRank(t, withData(slices.Repeat(single, 3), 1, 1), blocks, blocks)
	}
}

// The rank does not depend on the data or on the order of the drops.
func TestRanksOfReversedDrops(t *testing.T) {
	for blocks := 1; blocks <= 12; blocks++ {
		for i, seeds := range seedLists() {
			want, ok := impl.RankOfDrops(withData(seeds, 4, i), blocks)
			if !ok {
				t.Fatalf("RankOfDrops of the seeds %v with %d fails", seeds, blocks)
			}
			turned := slices.Clone(seeds)
			slices.Reverse(turned)
			requireDropRank(t, withData(turned, 0, i), blocks, want)
		}
	}
}

// Each of the first drops with independent rows is a drop of the solved blocks; the others do not count.
func TestLaterDropsThatDoNotAgree(t *testing.T) {
	for count := 1; count <= 12; count++ {
		blocks := mixedTexts(count, 3, count)
		for _, seeds := range seedLists() {
			right := longDrops(blocks, seeds)
			_, used := longSums(right, count)
			if len(used) < count {
				continue
			}
			wrong := slices.Clone(right)
			for i := range wrong {
				if !slices.Contains(used, i) {
					wrong[i].Data = plusText(wrong[i].Data, "abc")
				}
			}
			requireSolved(t, wrong, count, blocks)
			for _, i := range []int{used[0], used[count/2], used[count-1]} {
				changed := slices.Clone(wrong)
				changed[i].Data = plusText(changed[i].Data, "\x00\x01\x00")
				requireUsedDrops(t, changed, count, used)
			}
		}
	}
}

func requireUsedDrops(t *testing.T, l []impl.Drop, count int, used []int) {
	t.Helper()
	solved, ok := impl.SolveDrops(l, count)
	if !ok || len(solved) != count {
		t.Fatalf("SolveDrops of %#v with %d: %q, %v", l, count, solved, ok)
	}
	for _, i := range used {
		if longDrop(solved, l[i].Seed) != l[i] {
			t.Fatalf("SolveDrops of %#v with %d: %q, which has no drop %d", l, count, solved, i)
		}
	}
}

func TestWrongDrops(t *testing.T) {
	for count := 1; count <= 12; count++ {
		blocks := mixedTexts(count, 3, count)
		for seed := range 300 {
			drop := longDrop(blocks, seed)
			requireIsDrop(t, drop, blocks, true)
			for position := range 3 {
				for bit := range 8 {
					data := []byte(drop.Data)
					data[position] ^= 1 << bit
					requireIsDrop(t, dropOf(seed, string(data)), blocks, false)
				}
			}
			for _, data := range []string{"", drop.Data[:2], drop.Data + "\x00", drop.Data + drop.Data, zeroText(40)} {
				requireIsDrop(t, dropOf(seed, data), blocks, false)
			}
			for other := range 50 {
				want := slices.Equal(longBlocks(seed, count), longBlocks(other, count))
				requireIsDrop(t, dropOf(other, drop.Data), blocks, want)
			}
		}
	}
}

// Drops of blocks without a byte have no data either, and can be peeled all the same.
func TestBlocksOfNoByte(t *testing.T) {
	for count := 1; count <= 12; count++ {
		blocks := make([]string, count)
		for seed := range 100 {
			requireIsDrop(t, dropOf(seed, ""), blocks, true)
			requireIsDrop(t, dropOf(seed, "\x00"), blocks, false)
		}
		var single []int
		for block := range count {
			single = append(single, seedFor(t, count, block))
		}
		requirePeeled(t, longDrops(blocks, single), count, allKnown(blocks))
		requireSolved(t, longDrops(blocks, single), count, blocks)
	}
}
