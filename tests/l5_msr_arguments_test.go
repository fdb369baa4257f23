package tests

import (
	"bytes"
	"slices"
	"testing"

	"loop.example/g00294/impl"
)

func requireNotEncodedMsr(t *testing.T, c impl.Msr, data []byte) {
	t.Helper()
	if got, ok := impl.EncodeMsr(c, data); len(got) != 0 || ok {
		t.Errorf("EncodeMsr of %v with %v: %v, %v", data, c, got, ok)
	}
	message, ok := impl.MessageOf(c, data)
	requireNoMatrix(t, "MessageOf", message, ok)
}

func requireNoRow(t *testing.T, c impl.Msr, node int) {
	t.Helper()
	if got, ok := impl.MsrRow(c, node); len(got) != 0 || ok {
		t.Errorf("MsrRow of %d with %v: %v, %v", node, c, got, ok)
	}
}

func requireNoHelp(t *testing.T, c impl.Msr, p impl.Piece, lost int) {
	t.Helper()
	if got, ok := impl.HelpFor(c, p, lost); got != (impl.Help{}) || ok {
		t.Errorf("HelpFor %d by %v with %v: %v, %v", lost, p, c, got, ok)
	}
}

func requireNotRegenerated(t *testing.T, c impl.Msr, lost int, helps []impl.Help) {
	t.Helper()
	if got, ok := impl.RegeneratePiece(c, lost, helps); got.Node != 0 || len(got.Data) != 0 || ok {
		t.Errorf("RegeneratePiece %d from %v with %v: %v, %v", lost, helps, c, got, ok)
	}
}

// plainPieces have the nodes from 0 on.
func plainPieces(count, length int) []impl.Piece {
	var pieces []impl.Piece
	for node := range count {
		pieces = append(pieces, impl.Piece{Node: node, Data: mixedBytes(length, node)})
	}
	return pieces
}

// plainHelps have the nodes from a given one on.
func plainHelps(first, count int) []impl.Help {
	var helps []impl.Help
	for i := range count {
		helps = append(helps, impl.Help{Node: first + i, Byte: mixedByte(3, i, first)})
	}
	return helps
}

// requireNoMsr checks that every function fails for a code, with arguments that other codes take.
func requireNoMsr(t *testing.T, c impl.Msr) {
	t.Helper()
	if impl.GoodMsr(c) {
		t.Errorf("GoodMsr of %v is true", c)
	}
	if alpha, helpers, size, ok := impl.MsrSizes(c); alpha != 0 || helpers != 0 || size != 0 || ok {
		t.Errorf("MsrSizes of %v: %d, %d, %d, %v", c, alpha, helpers, size, ok)
	}
	for _, length := range []int{0, 1, 2, 6, 12, 20} {
		requireNotEncodedMsr(t, c, mixedBytes(length, 1))
	}
	for node := -2; node <= 15; node++ {
		requireNoRow(t, c, node)
		for length := range 6 {
			requireNoHelp(t, c, impl.Piece{Node: 1, Data: mixedBytes(length, 1)}, node)
			requireNoHelp(t, c, impl.Piece{Node: node, Data: mixedBytes(length, 1)}, 0)
		}
	}
	for count := range 16 {
		for length := range 5 {
			requireNotMsrDecoded(t, c, plainPieces(count, length))
		}
		requireNotRegenerated(t, c, 0, plainHelps(1, count))
		requireNotRegenerated(t, c, count, plainHelps(0, count))
	}
}

func TestGoodMsr(t *testing.T) {
	if impl.MaxMsrNodes != 14 {
		t.Errorf("MaxMsrNodes is %d", impl.MaxMsrNodes)
	}
	numbers := unusualInts()
	for n := -20; n <= 30; n++ {
		numbers = append(numbers, n)
	}
	for _, n := range numbers {
		for _, k := range numbers {
			c := msrCode(n, k)
			good := slices.Contains(allMsrs(), c)
			if impl.GoodMsr(c) != good {
				t.Errorf("GoodMsr of %v is %v", c, !good)
			}
			if _, _, _, ok := impl.MsrSizes(c); ok != good {
				t.Errorf("MsrSizes of %v: %v", c, ok)
			}
			if row, ok := impl.MsrRow(c, 0); ok != good || !good && len(row) != 0 {
				t.Errorf("MsrRow of 0 with %v: %v, %v", c, row, ok)
			}
		}
	}
}

func TestMsrsAtTheLimits(t *testing.T) {
	for _, c := range []impl.Msr{
		msrCode(3, 2), msrCode(14, 2), msrCode(5, 3), msrCode(14, 3), msrCode(7, 4), msrCode(14, 4),
	} {
		if !impl.GoodMsr(c) {
			t.Errorf("GoodMsr of %v is false", c)
		}
		data := mixedBytes(msrSize(c), 3)
		pieces := encodedMsr(t, c, data)
		requireMsrDecoded(t, c, pieces, data)
		requireMsrDecoded(t, c, pieces[:c.K], data)
		requireMsrDecoded(t, c, pieces[c.N-c.K:], data)
		requireRegenerated(t, c, longHelps(pieces[1:1+helperCount(c)], 0), pieces[0])
		requireRegenerated(t, c, longHelps(pieces[:helperCount(c)], c.N-1), pieces[c.N-1])
	}
}

func TestInvalidMsrsFail(t *testing.T) {
	for _, c := range []impl.Msr{
		{}, msrCode(1, 1), msrCode(2, 1), msrCode(5, 1), msrCode(14, 1), msrCode(9, 5), msrCode(14, 5), msrCode(14, 7),
		msrCode(2, 2), msrCode(4, 3), msrCode(6, 4), msrCode(15, 2), msrCode(15, 3), msrCode(15, 4), msrCode(15, 5),
		msrCode(0, 2), msrCode(1, 2), msrCode(3, 3), msrCode(4, 4), msrCode(-1, 2), msrCode(-5, 3), msrCode(-7, 4),
		msrCode(3, 0), msrCode(5, 0), msrCode(5, -1), msrCode(5, -3), msrCode(14, -2), msrCode(-3, -2), msrCode(-5, -3),
		msrCode(2, 3), msrCode(3, 5), msrCode(4, 14),
	} {
		requireNoMsr(t, c)
	}
	for _, n := range unusualInts() {
		requireNoMsr(t, msrCode(n, 2))
		requireNoMsr(t, msrCode(n, 4))
		requireNoMsr(t, msrCode(5, n))
		requireNoMsr(t, msrCode(14, n))
		requireNoMsr(t, msrCode(n, n))
	}
}

func TestMsrDataOfAWrongLength(t *testing.T) {
	for _, c := range allMsrs() {
		for _, length := range []int{0, 1, 2, 3, 4, 5, 6, 7, 8, 9, 10, 11, 12, 13, 14, 24, 80, 81, 1000} {
			if length != msrSize(c) {
				requireNotEncodedMsr(t, c, mixedBytes(length, 4))
			}
		}
		requireNotEncodedMsr(t, c, nil)
	}
}

func TestMsrNodesOutOfRange(t *testing.T) {
	for _, c := range allMsrs() {
		pieces := longPieces(c, mixedBytes(msrSize(c), 5))
		for _, node := range append(unusualInts(), -c.N, -2, c.N, c.N+1, 14, 15, 255) {
			if node >= 0 && node < c.N {
				continue
			}
			requireNoRow(t, c, node)
			for _, piece := range pieces {
				requireNoHelp(t, c, piece, node)
				requireNoHelp(t, c, impl.Piece{Node: node, Data: piece.Data}, piece.Node)
			}
			requireNoHelp(t, c, impl.Piece{Node: node, Data: pieces[0].Data}, node)
			requireNotRegenerated(t, c, node, plainHelps(0, helperCount(c)))
			requireNotRegenerated(t, c, node, plainHelps(1, helperCount(c)))
		}
	}
}

func TestTheFirstAndTheLastNode(t *testing.T) {
	for _, c := range allMsrs() {
		pieces := longPieces(c, mixedBytes(msrSize(c), 5))
		for _, node := range []int{0, c.N - 1} {
			if row, ok := impl.MsrRow(c, node); !ok || !bytes.Equal(row, longMsrRow(c, node)) {
				t.Errorf("MsrRow of %d with %v: %v, %v", node, c, row, ok)
			}
			other := c.N - 1 - node
			if help, ok := impl.HelpFor(c, pieces[node], other); !ok || help != longHelp(pieces[node], other) {
				t.Errorf("HelpFor %d by %v with %v: %v, %v", other, pieces[node], c, help, ok)
			}
		}
	}
}

func TestNoPieceHelpsItself(t *testing.T) {
	for _, c := range allMsrs() {
		for _, piece := range longPieces(c, mixedBytes(msrSize(c), 6)) {
			requireNoHelp(t, c, piece, piece.Node)
		}
	}
}

// Pieces are judged wherever they stand, also behind the first K.
func TestPiecesOfAWrongLength(t *testing.T) {
	for _, c := range allMsrs() {
		pieces := longPieces(c, mixedBytes(msrSize(c), 7))
		for place, piece := range pieces {
			for _, length := range []int{0, 1, 2, 3, 4, 5, 6, 12, 80, 81} {
				if length == pieceSize(c) {
					continue
				}
				wrong := slices.Clone(pieces)
				wrong[place].Data = append(slices.Clone(piece.Data), make([]byte, 81)...)[:length]
				requireNotMsrDecoded(t, c, wrong)
				requireNotMsrDecoded(t, c, wrong[max(place-c.K+1, 0):])
				requireNoHelp(t, c, wrong[place], (place+1)%c.N)
			}
			wrong := slices.Clone(pieces)
			wrong[place].Data = nil
			requireNotMsrDecoded(t, c, wrong)
			requireNoHelp(t, c, wrong[place], (place+1)%c.N)
		}
	}
}

// As many bytes in all as K pieces have do not make up for wrong lengths.
func TestPiecesOfUnequalLengths(t *testing.T) {
	for _, c := range allMsrs() {
		pieces := clonedPieces(longPieces(c, mixedBytes(msrSize(c), 7))[:c.K])
		last := len(pieces[1].Data) - 1
		pieces[0].Data = append(pieces[0].Data, pieces[1].Data[last])
		pieces[1].Data = pieces[1].Data[:last]
		requireNotMsrDecoded(t, c, pieces)
	}
}

func TestPieceNodesOutOfRange(t *testing.T) {
	for _, c := range allMsrs() {
		pieces := longPieces(c, mixedBytes(msrSize(c), 8))
		for place := range pieces {
			for _, node := range append(unusualInts(), c.N, c.N+1, 14, 15) {
				wrong := slices.Clone(pieces)
				wrong[place].Node = node
				if node < 0 || node >= c.N {
					requireNotMsrDecoded(t, c, wrong)
				}
			}
		}
		requireNotMsrDecoded(t, c, append(slices.Clone(pieces), impl.Piece{Node: c.N, Data: make([]byte, pieceSize(c))}))
		requireNotMsrDecoded(t, c, append([]impl.Piece{{Node: -1, Data: make([]byte, pieceSize(c))}}, pieces...))
		last := slices.Clone(pieces)
		last[c.N-1].Node = c.N
		requireNotMsrDecoded(t, c, last[c.N-c.K:])
	}
}

func TestPieceNodesThatDoNotIncrease(t *testing.T) {
	for _, c := range allMsrs() {
		pieces := longPieces(c, mixedBytes(msrSize(c), 8))
		for place := 1; place < len(pieces); place++ {
			doubled := slices.Clone(pieces)
			doubled[place] = doubled[place-1]
			requireNotMsrDecoded(t, c, doubled)
			requireNotMsrDecoded(t, c, slices.Insert(slices.Clone(pieces), place, pieces[place]))
			swapped := slices.Clone(pieces)
			swapped[place], swapped[place-1] = swapped[place-1], swapped[place]
			requireNotMsrDecoded(t, c, swapped)
			requireNotMsrDecoded(t, c, append(slices.Clone(pieces[:place]), pieces[0]))
		}
		requireNotMsrDecoded(t, c, slices.Repeat(pieces[:1], c.K))
		requireNotMsrDecoded(t, c, slices.Repeat(pieces, 50))
		slices.Reverse(pieces)
		requireNotMsrDecoded(t, c, pieces)
		requireNotMsrDecoded(t, c, pieces[:c.K])
	}
}

func TestFewerThanKPieces(t *testing.T) {
	for _, c := range allMsrs() {
		pieces := longPieces(c, mixedBytes(msrSize(c), 8))
		for count := range c.K {
			for first := 0; first+count <= c.N; first++ {
				requireNotMsrDecoded(t, c, pieces[first:first+count])
			}
		}
		requireNotMsrDecoded(t, c, nil)
		requireNotMsrDecoded(t, c, []impl.Piece{})
	}
}

// rightHelps are those of the first nodes but the lost one.
func rightHelps(c impl.Msr, lost, count int) (impl.Piece, []impl.Help) {
	pieces := longPieces(c, mixedBytes(msrSize(c), 9))
	return pieces[lost], longHelps(pickedPieces(pieces, without(allNodes(c), lost)[:count]), lost)
}

func TestFewerAndMoreHelps(t *testing.T) {
	for _, c := range allMsrs() {
		for lost := range c.N {
			for count := range c.N {
				piece, helps := rightHelps(c, lost, count)
				if count == helperCount(c) {
					requireRegenerated(t, c, helps, piece)
				} else {
					requireNotRegenerated(t, c, lost, helps)
				}
			}
			requireNotRegenerated(t, c, lost, nil)
			requireNotRegenerated(t, c, lost, []impl.Help{})
			requireNotRegenerated(t, c, lost, make([]impl.Help, 1000))
		}
	}
}

// The helps are as many as needed with increasing nodes, but the lost one is among these.
func TestTheLostNodeDoesNotHelp(t *testing.T) {
	for _, c := range smallMsrs() {
		pieces := longPieces(c, mixedBytes(msrSize(c), 9))
		for _, nodes := range choices(c.N, helperCount(c)) {
			for _, lost := range nodes {
				requireNotRegenerated(t, c, lost, longHelps(pickedPieces(pieces, nodes), lost))
			}
		}
	}
	for _, c := range allMsrs() {
		for lost := range c.N {
			first := min(lost, c.N-helperCount(c))
			requireNotRegenerated(t, c, lost, plainHelps(first, helperCount(c)))
			_, helps := rightHelps(c, lost, helperCount(c))
			requireNotRegenerated(t, c, lost, slices.Insert(helps, min(lost, len(helps)), impl.Help{Node: lost}))
		}
	}
}

func TestHelpNodesOutOfRange(t *testing.T) {
	for _, c := range allMsrs() {
		for lost := range c.N {
			_, helps := rightHelps(c, lost, helperCount(c))
			for place := range helps {
				for _, node := range append(unusualInts(), c.N, c.N+1, 14, 15) {
					wrong := slices.Clone(helps)
					wrong[place].Node = node
					if node < 0 || node >= c.N {
						requireNotRegenerated(t, c, lost, wrong)
					}
				}
			}
		}
		// The nodes increase, and only the last one or the first one is out of range.
		requireNotRegenerated(t, c, 0, plainHelps(c.N-helperCount(c)+1, helperCount(c)))
		requireNotRegenerated(t, c, c.N-1, plainHelps(-1, helperCount(c)))
	}
}

func TestHelpNodesThatDoNotIncrease(t *testing.T) {
	for _, c := range allMsrs() {
		for lost := range c.N {
			_, helps := rightHelps(c, lost, helperCount(c))
			for place := 1; place < len(helps); place++ {
				doubled := slices.Clone(helps)
				doubled[place] = doubled[place-1]
				requireNotRegenerated(t, c, lost, doubled)
				swapped := slices.Clone(helps)
				swapped[place], swapped[place-1] = swapped[place-1], swapped[place]
				requireNotRegenerated(t, c, lost, swapped)
				requireNotRegenerated(t, c, lost, slices.Insert(slices.Clone(helps), place, helps[place]))
			}
			requireNotRegenerated(t, c, lost, slices.Repeat(helps[:1], len(helps)))
			slices.Reverse(helps)
			requireNotRegenerated(t, c, lost, helps)
		}
	}
}

// Nodes that one code has may be too many for another one.
func TestPiecesOfAnotherMsr(t *testing.T) {
	data := mixedBytes(6, 2)
	pieces := longPieces(msrCode(8, 3), data)
	requireNotMsrDecoded(t, msrCode(7, 3), pieces)
	requireNotMsrDecoded(t, msrCode(7, 3), pieces[5:])
	requireMsrDecoded(t, msrCode(7, 3), pieces[4:7], data)
	requireMsrDecoded(t, msrCode(8, 3), pieces[5:], data)
	requireNotMsrDecoded(t, msrCode(8, 2), pieces)
	requireNotMsrDecoded(t, msrCode(8, 4), pieces)
	requireNotRegenerated(t, msrCode(7, 3), 7, longHelps(pieces[:4], 7))
	requireRegenerated(t, msrCode(8, 3), longHelps(pieces[:4], 7), pieces[7])
	requireNotRegenerated(t, msrCode(8, 2), 7, longHelps(pieces[:4], 7))
	requireNoHelp(t, msrCode(7, 3), pieces[7], 0)
	requireNoHelp(t, msrCode(7, 3), pieces[0], 7)
	requireNoHelp(t, msrCode(8, 4), pieces[0], 7)
}

// roomyPieces have spare memory behind the list and behind the data of each piece.
type roomyPieces struct {
	list   []impl.Piece
	memory []impl.Piece
	inner  [][]byte
}

func newRoomyPieces(pieces []impl.Piece) roomyPieces {
	room := roomyPieces{}
	for _, piece := range pieces {
		data, memory := roomy(piece.Data, spare)
		room.inner = append(room.inner, memory)
		room.memory = append(room.memory, impl.Piece{Node: piece.Node, Data: data})
	}
	behind := impl.Piece{Node: 99, Data: []byte{spare}}
	room.inner = append(room.inner, behind.Data)
	room.list, room.memory = roomy(room.memory, behind)
	return room
}

// state is all that a call could modify: the nodes, where the data lie, and their bytes.
func (r roomyPieces) state() (bytes [][]byte, places []*byte, numbers []int) {
	for _, memory := range r.inner {
		bytes = append(bytes, slices.Clone(memory))
	}
	for _, piece := range r.memory {
		places = append(places, &piece.Data[:1][0])
		numbers = append(numbers, piece.Node, len(piece.Data))
	}
	return bytes, places, numbers
}

func (r roomyPieces) requireUnmodified(t *testing.T, call func()) {
	t.Helper()
	bytes, places, numbers := r.state()
	call()
	bytesAfter, placesAfter, numbersAfter := r.state()
	if !slices.EqualFunc(bytes, bytesAfter, slices.Equal) || !slices.Equal(places, placesAfter) || !slices.Equal(numbers, numbersAfter) {
		t.Errorf("the pieces %v were modified", r.list)
	}
}

func testPieces() [][]impl.Piece {
	right := longPieces(msrCode(7, 3), mixedBytes(6, 2))
	return [][]impl.Piece{
		nil, {}, right, right[4:], right[:2], right[:3], spoiledPieces(right, 1, 1, 1), spoiledPieces(right, 5, 1, 1),
		{right[1], right[0], right[2]}, {right[1], right[1], right[2]}, {{}, {}, {}},
		plainPieces(9, 1), plainPieces(9, 2), plainPieces(9, 3), plainPieces(20, 81),
	}
}

func someMsrs() []impl.Msr {
	return []impl.Msr{{}, msrCode(7, 3), msrCode(3, 2), msrCode(14, 2), msrCode(14, 4), msrCode(6, 4), msrCode(15, 3), msrCode(-1, -1)}
}

func TestMsrPiecesAreNotModified(t *testing.T) {
	for _, list := range testPieces() {
		pieces := newRoomyPieces(list)
		pieces.requireUnmodified(t, func() {
			for _, c := range someMsrs() {
				impl.DecodeMsr(c, pieces.list)
				for _, piece := range pieces.list {
					for lost := -1; lost <= 15; lost++ {
						impl.HelpFor(c, piece, lost)
					}
				}
			}
		})
	}
}

func TestMsrDataAndHelpsAreNotModified(t *testing.T) {
	for count := range 16 {
		data, memory := vectorWithSpare(count, 5)
		helps, helpMemory := roomy(plainHelps(1, count), impl.Help{Node: 99, Byte: spare})
		swapped, swappedMemory := roomy(append(plainHelps(3, count), plainHelps(1, 1)...), impl.Help{Node: 99, Byte: spare})
		before, helpsBefore, swappedBefore := slices.Clone(memory), slices.Clone(helpMemory), slices.Clone(swappedMemory)
		for _, c := range append(someMsrs(), allMsrs()...) {
			impl.EncodeMsr(c, data)
			impl.MessageOf(c, data)
			for lost := -1; lost <= 15; lost++ {
				impl.RegeneratePiece(c, lost, helps)
				impl.RegeneratePiece(c, lost, swapped)
			}
		}
		if !slices.Equal(memory, before) {
			t.Errorf("the data %v became %v", before, memory)
		}
		if !slices.Equal(helpMemory, helpsBefore) || !slices.Equal(swappedMemory, swappedBefore) {
			t.Errorf("the helps %v became %v", helpsBefore, helpMemory)
		}
	}
}

// What stands behind a list would make it valid, or invalid, or enough, if it were read.
func TestSpareMsrArgumentsAreNotRead(t *testing.T) {
	for _, c := range allMsrs() {
		data := mixedBytes(msrSize(c), 2)
		right := longPieces(c, data)
		for count := range right {
			some := slices.Clone(right)[:count]
			if count < c.K {
				requireNotMsrDecoded(t, c, some)
			} else {
				requireMsrDecoded(t, c, some, data)
			}
		}
		short := clonedPieces(right)
		short[0].Data = short[0].Data[:pieceSize(c)-1]
		requireNotMsrDecoded(t, c, short)
		requireNoHelp(t, c, short[0], 1)
		requireNotEncodedMsr(t, c, slices.Clone(data)[:msrSize(c)-1])
		_, helps := rightHelps(c, 1, helperCount(c))
		requireNotRegenerated(t, c, 1, helps[:helperCount(c)-1])
	}
}

func TestSpareMsrArgumentsDoNoHarm(t *testing.T) {
	for _, c := range allMsrs() {
		data, _ := roomy(mixedBytes(msrSize(c), 2), spare)
		right := longPieces(c, data)
		if got := encodedMsr(t, c, data); !samePieces(got, right) {
			t.Errorf("EncodeMsr of %v with %v: %v", data, c, got)
		}
		pieces := newRoomyPieces(right)
		requireMsrDecoded(t, c, pieces.list, data)
		for lost, piece := range right {
			helpers := newRoomyPieces(slices.Delete(slices.Clone(right), lost, lost+1)).list[:helperCount(c)]
			helps, _ := roomy(helpsFor(t, c, helpers, lost), impl.Help{Node: lost, Byte: spare})
			requireRegenerated(t, c, helps, piece)
		}
	}
}

// The data of two pieces may be one and the same list.
func TestPiecesThatShareMemory(t *testing.T) {
	for _, c := range allMsrs() {
		data := mixedBytes(pieceSize(c), 3)
		var pieces []impl.Piece
		for node := range c.K {
			pieces = append(pieces, impl.Piece{Node: node, Data: data})
		}
		requirePiecesOfDecoded(t, c, pieces)
		if !bytes.Equal(data, mixedBytes(pieceSize(c), 3)) {
			t.Errorf("DecodeMsr with %v modified the data of a piece: %v", c, data)
		}
	}
}

func TestMsrListsShareNoMemory(t *testing.T) {
	for _, c := range allMsrs() {
		data, memory := vectorWithSpare(msrSize(c), 5)
		pieces := newRoomyPieces(longPieces(c, data))
		pieces.requireUnmodified(t, func() {
			requireUnshared(t, func() []byte {
				decoded, _ := impl.DecodeMsr(c, pieces.list)
				return decoded
			})
		})
		before := slices.Clone(memory)
		requireUnsharedMatrix(t, func() (impl.Matrix, bool) { return impl.MessageOf(c, data) })
		if !bytes.Equal(memory, before) {
			t.Errorf("MessageOf with %v shares memory with the data", c)
		}
		for lost := range c.N {
			requireUnshared(t, func() []byte {
				row, _ := impl.MsrRow(c, lost)
				return row
			})
			_, helps := rightHelps(c, lost, helperCount(c))
			requireUnshared(t, func() []byte {
				piece, _ := impl.RegeneratePiece(c, lost, helps)
				return piece.Data
			})
		}
	}
}

// requireOwnData writes to the data of each piece and looks at those of the others.
func requireOwnData(t *testing.T, pieces []impl.Piece) {
	t.Helper()
	for i := range pieces {
		kept := clonedPieces(pieces)
		overwriteAll(pieces[i].Data)
		pieces[i].Data, kept[i].Data = nil, nil
		if !samePieces(pieces, kept) {
			t.Errorf("piece %d of a result shares memory with another piece", i)
		}
	}
}

func TestEncodedPiecesShareNoMemory(t *testing.T) {
	for _, c := range allMsrs() {
		data, memory := vectorWithSpare(msrSize(c), 5)
		before := slices.Clone(memory)
		want := longPieces(c, data)
		first, second := encodedMsr(t, c, data), encodedMsr(t, c, data)
		requireOwnData(t, first)
		clear(first[:cap(first)])
		if !samePieces(second, want) {
			t.Errorf("the results of two calls of EncodeMsr with %v share memory", c)
		}
		requireOwnData(t, second)
		if !bytes.Equal(memory, before) {
			t.Errorf("EncodeMsr with %v shares memory with the data", c)
		}
		if again := encodedMsr(t, c, data); !samePieces(again, want) {
			t.Errorf("writing to a result of EncodeMsr with %v changed the next one", c)
		}
	}
}

func TestMsrCallsKeepNoState(t *testing.T) {
	c := msrCode(6, 3)
	data := mixedBytes(6, 15)
	right := longPieces(c, data)
	for range 2 {
		requireNotMsrDecoded(t, c, right[:2])
		requireNotEncodedMsr(t, c, data[:5])
		requireNoHelp(t, c, right[2], 2)
		requireNoRow(t, c, 6)
		requireNotRegenerated(t, c, 0, longHelps(right[1:4], 0))
		requireMsrDecoded(t, c, right[3:], data)
		requireMsrDecoded(t, msrCode(3, 2), longPieces(msrCode(3, 2), data[:2])[1:], data[:2])
		requireRegenerated(t, c, longHelps(right[1:5], 0), right[0])
	}
}
