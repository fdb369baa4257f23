package tests

import (
	"bytes"
	"slices"
	"testing"

	"loop.example/g00294/impl"
)

func msrCode(n, k int) impl.Msr {
	return impl.Msr{N: n, K: k}
}

func allMsrs() []impl.Msr {
	var codes []impl.Msr
	for k := 2; k <= 4; k++ {
		for n := 2*k - 1; n <= 14; n++ {
			codes = append(codes, msrCode(n, k))
		}
	}
	return codes
}

// smallMsrs have so few nodes that all their subsets can be tried.
func smallMsrs() []impl.Msr {
	return []impl.Msr{msrCode(3, 2), msrCode(4, 2), msrCode(7, 2), msrCode(5, 3), msrCode(8, 3), msrCode(7, 4), msrCode(8, 4)}
}

func pieceSize(c impl.Msr) int   { return c.K - 1 }
func helperCount(c impl.Msr) int { return 2*c.K - 2 }
func msrSize(c impl.Msr) int     { return c.K * (c.K - 1) }

func mixedBytes(n, seed int) []byte {
	v := make([]byte, n)
	for i := range v {
		v[i] = mixedByte(seed, i, 3)
	}
	return v
}

// dataOfMsr returns several data of a code: mixed bytes, and bytes that are all 0 or 255 or increasing.
func dataOfMsr(c impl.Msr) [][]byte {
	n := msrSize(c)
	return [][]byte{
		mixedBytes(n, c.N), mixedBytes(n, 100+c.N), make([]byte, n), bytes.Repeat([]byte{0xFF}, n), steppedBytes(n, 1, 1),
	}
}

func longPower(a byte, n int) byte {
	power := byte(1)
	for range n {
		power = longProduct(power, a)
	}
	return power
}

func longNumber(node int) byte { return longPower(3, node+1) }

func longFactor(c impl.Msr, node int) byte { return longPower(longNumber(node), c.K-1) }

func longMsrRow(c impl.Msr, node int) []byte {
	row := make([]byte, helperCount(c))
	for exponent := range pieceSize(c) {
		power := longPower(longNumber(node), exponent)
		row[exponent] = power
		row[pieceSize(c)+exponent] = longProduct(power, longFactor(c, node))
	}
	return row
}

func longMsrRows(c impl.Msr, nodes []int) impl.Matrix {
	var rows [][]byte
	for _, node := range nodes {
		rows = append(rows, longMsrRow(c, node))
	}
	return matrixOf(rows...)
}

// messagePlaces tells, for each K, which byte of the data stands in each element of the message matrix.
func messagePlaces(k int) [][]int {
	return map[int][][]int{
		2: {{0}, {1}},
		3: {{0, 1}, {1, 2}, {3, 4}, {4, 5}},
		4: {{0, 1, 2}, {1, 3, 4}, {2, 4, 5}, {6, 7, 8}, {7, 9, 10}, {8, 10, 11}},
	}[k]
}

func longMessage(c impl.Msr, data []byte) impl.Matrix {
	places := messagePlaces(c.K)
	return matrixWith(helperCount(c), pieceSize(c), func(i, j int) byte { return data[places[i][j]] })
}

// longPieces is independent of the program's arithmetic.
func longPieces(c impl.Msr, data []byte) []impl.Piece {
	var pieces []impl.Piece
	for node := range c.N {
		product := longMatrixProduct(matrixOf(longMsrRow(c, node)), longMessage(c, data))
		pieces = append(pieces, impl.Piece{Node: node, Data: product.Rows[0]})
	}
	return pieces
}

func longHelp(p impl.Piece, lost int) impl.Help {
	help := impl.Help{Node: p.Node}
	for exponent, b := range p.Data {
		help.Byte ^= longProduct(b, longPower(longNumber(lost), exponent))
	}
	return help
}

func longHelps(pieces []impl.Piece, lost int) []impl.Help {
	var helps []impl.Help
	for _, piece := range pieces {
		helps = append(helps, longHelp(piece, lost))
	}
	return helps
}

func samePiece(a, b impl.Piece) bool {
	return a.Node == b.Node && bytes.Equal(a.Data, b.Data)
}

func samePieces(a, b []impl.Piece) bool {
	return slices.EqualFunc(a, b, samePiece)
}

func clonedPieces(pieces []impl.Piece) []impl.Piece {
	cloned := slices.Clone(pieces)
	for i := range cloned {
		cloned[i].Data = slices.Clone(cloned[i].Data)
	}
	return cloned
}

func pickedPieces(pieces []impl.Piece, places []int) []impl.Piece {
	var some []impl.Piece
	for _, place := range places {
		some = append(some, pieces[place])
	}
	return some
}

// spoiledPieces changes one byte of one piece.
func spoiledPieces(pieces []impl.Piece, place, position int, change byte) []impl.Piece {
	wrong := clonedPieces(pieces)
	wrong[place].Data[position] ^= change
	return wrong
}

func encodedMsr(t *testing.T, c impl.Msr, data []byte) []impl.Piece {
	t.Helper()
	pieces, ok := impl.EncodeMsr(c, data)
	if !ok || len(pieces) != c.N {
		t.Fatalf("EncodeMsr of %v with %v: %v, %v", data, c, pieces, ok)
	}
	return pieces
}

func requireMsrDecoded(t *testing.T, c impl.Msr, pieces []impl.Piece, want []byte) {
	t.Helper()
	if got, ok := impl.DecodeMsr(c, pieces); !ok || !bytes.Equal(got, want) {
		t.Fatalf("DecodeMsr of %v with %v: %v, %v, want %v", pieces, c, got, ok, want)
	}
}

func requireNotMsrDecoded(t *testing.T, c impl.Msr, pieces []impl.Piece) {
	t.Helper()
	if got, ok := impl.DecodeMsr(c, pieces); len(got) != 0 || ok {
		t.Fatalf("DecodeMsr of %v with %v: %v, %v", pieces, c, got, ok)
	}
}

func helpsFor(t *testing.T, c impl.Msr, pieces []impl.Piece, lost int) []impl.Help {
	t.Helper()
	var helps []impl.Help
	for _, piece := range pieces {
		help, ok := impl.HelpFor(c, piece, lost)
		if !ok {
			t.Fatalf("HelpFor %d by %v with %v fails", lost, piece, c)
		}
		helps = append(helps, help)
	}
	return helps
}

func requireRegenerated(t *testing.T, c impl.Msr, helps []impl.Help, want impl.Piece) {
	t.Helper()
	if got, ok := impl.RegeneratePiece(c, want.Node, helps); !ok || !samePiece(got, want) {
		t.Fatalf("RegeneratePiece %d from %v with %v: %v, %v, want %v", want.Node, helps, c, got, ok, want)
	}
}

func allNodes(c impl.Msr) []int {
	nodes := make([]int, c.N)
	for node := range nodes {
		nodes[node] = node
	}
	return nodes
}

// otherChoices returns all increasing lists of as many nodes as help, without the lost one.
func otherChoices(c impl.Msr, lost int) [][]int {
	others := without(allNodes(c), lost)
	var lists [][]int
	for _, places := range choices(len(others), helperCount(c)) {
		list := make([]int, len(places))
		for i, place := range places {
			list[i] = others[place]
		}
		lists = append(lists, list)
	}
	return lists
}

func TestMsrExamples(t *testing.T) {
	c := msrCode(5, 3)
	data := []byte{1, 2, 3, 4, 5, 6}
	message, ok := impl.MessageOf(c, data)
	if want := matrixOf([]byte{1, 2}, []byte{2, 3}, []byte{4, 5}, []byte{5, 6}); !ok || !sameMatrix(message, want) {
		t.Errorf("MessageOf: %v, %v, want %v", message, ok, want)
	}
	pieces := encodedMsr(t, c, data)
	for lost := range pieces {
		helps := helpsFor(t, c, slices.Delete(slices.Clone(pieces), lost, lost+1), lost)
		if len(helps) != 4 {
			t.Fatalf("there are %d helps", len(helps))
		}
		requireRegenerated(t, c, helps, pieces[lost])
	}
	requireMsrDecoded(t, c, pickedPieces(pieces, []int{0, 2, 4}), data)
}

func TestMsrSizes(t *testing.T) {
	want := map[int][3]int{2: {1, 2, 2}, 3: {2, 4, 6}, 4: {3, 6, 12}}
	for _, c := range allMsrs() {
		alpha, helpers, size, ok := impl.MsrSizes(c)
		if got := [3]int{alpha, helpers, size}; !ok || got != want[c.K] {
			t.Errorf("MsrSizes of %v: %v, %v, want %v", c, got, ok, want[c.K])
		}
	}
}

// The powers of 3 begin with 1, 3, 5, 15, 0x11, 0x33, 0x55, 0xFF.
func TestMsrRowByHand(t *testing.T) {
	for _, check := range []struct {
		code impl.Msr
		node int
		want []byte
	}{
		{msrCode(3, 2), 0, []byte{1, 3}},
		{msrCode(3, 2), 1, []byte{1, 5}},
		{msrCode(14, 2), 2, []byte{1, 15}},
		{msrCode(5, 3), 0, []byte{1, 3, 5, 15}},
		{msrCode(5, 3), 1, []byte{1, 5, 0x11, 0x55}},
		{msrCode(7, 4), 0, []byte{1, 3, 5, 15, 0x11, 0x33}},
	} {
		if got, ok := impl.MsrRow(check.code, check.node); !ok || !bytes.Equal(got, check.want) {
			t.Errorf("MsrRow of %d with %v: %v, %v, want %v", check.node, check.code, got, ok, check.want)
		}
	}
}

func TestMsrRowElements(t *testing.T) {
	for _, c := range allMsrs() {
		for node := range c.N {
			if got, ok := impl.MsrRow(c, node); !ok || !bytes.Equal(got, longMsrRow(c, node)) {
				t.Errorf("MsrRow of %d with %v: %v, %v", node, c, got, ok)
			}
		}
	}
}

func TestMessageElements(t *testing.T) {
	for _, c := range allMsrs() {
		for _, data := range dataOfMsr(c) {
			got, ok := impl.MessageOf(c, data)
			if !ok || !impl.GoodMatrix(got) || !sameMatrix(got, longMessage(c, data)) {
				t.Errorf("MessageOf %v with %v: %v, %v", data, c, got, ok)
			}
		}
	}
}

// The two halves of a message are symmetric, and each byte of the data stands in it.
func TestMessageIsSymmetric(t *testing.T) {
	for _, c := range allMsrs() {
		message, _ := impl.MessageOf(c, steppedBytes(msrSize(c), 1, 1))
		seen := make([]int, msrSize(c)+1)
		for i, row := range message.Rows {
			half := i / pieceSize(c) * pieceSize(c)
			for j, b := range row {
				if message.Rows[half+j][i-half] != b {
					t.Errorf("MessageOf with %v is not symmetric: %v", c, message)
				}
				seen[b]++
			}
		}
		if seen[0] != 0 || slices.Contains(seen[1:], 0) {
			t.Errorf("MessageOf with %v does not have each byte: %v", c, message)
		}
	}
}

func TestMsrPiecesByHand(t *testing.T) {
	// 7, 11 and 31 are 1 plus 2 times 3, 5 and 15.
	got := encodedMsr(t, msrCode(3, 2), []byte{1, 2})
	want := []impl.Piece{{Node: 0, Data: []byte{7}}, {Node: 1, Data: []byte{11}}, {Node: 2, Data: []byte{31}}}
	if !samePieces(got, want) {
		t.Errorf("EncodeMsr: %v, want %v", got, want)
	}
}

func TestMsrPiecesAreTheProduct(t *testing.T) {
	for _, c := range allMsrs() {
		for _, data := range dataOfMsr(c) {
			if got := encodedMsr(t, c, data); !samePieces(got, longPieces(c, data)) {
				t.Fatalf("EncodeMsr of %v with %v: %v", data, c, got)
			}
		}
	}
}

func TestAnyKPiecesDecode(t *testing.T) {
	for _, c := range allMsrs() {
		all := dataOfMsr(c)
		if c.K == 4 && c.N > 8 {
			all = all[:1]
		}
		for _, data := range all {
			pieces := encodedMsr(t, c, data)
			for _, places := range choices(c.N, c.K) {
				requireMsrDecoded(t, c, pickedPieces(pieces, places), data)
			}
		}
	}
}

// storedRows tells what each byte of the pieces at these places is made of: one row for each, with a column for each byte of data.
func storedRows(c impl.Msr, places []int) [][]byte {
	rows := matrixWith(len(places)*pieceSize(c), msrSize(c), func(i, j int) byte { return 0 }).Rows
	for column, unit := range unitMatrix(msrSize(c)).Rows {
		for i, piece := range pickedPieces(longPieces(c, unit), places) {
			for j, b := range piece.Data {
				rows[i*pieceSize(c)+j][column] = b
			}
		}
	}
	return rows
}

// K pieces have as many bytes as the data. These determine it exactly if their rows are independent.
func TestMsrDecodesWhereThePiecesDetermineTheData(t *testing.T) {
	for _, c := range append(smallMsrs(), msrCode(14, 2), msrCode(14, 3), msrCode(10, 4)) {
		data := mixedBytes(msrSize(c), 5)
		pieces := longPieces(c, data)
		for _, places := range choices(c.N, c.K) {
			var s span
			determined := true
			for _, row := range storedRows(c, places) {
				determined = s.add(row) && determined
			}
			if determined {
				requireMsrDecoded(t, c, pickedPieces(pieces, places), data)
			} else {
				requireNotMsrDecoded(t, c, pickedPieces(pieces, places))
			}
		}
	}
}

// Whatever K pieces hold, there are data that they are pieces of.
func TestDecodedPiecesNeedNotBeEncoded(t *testing.T) {
	for _, c := range allMsrs() {
		for seed := range 4 {
			for first := 0; first+c.K <= c.N; first++ {
				var pieces []impl.Piece
				for node := first; node < first+c.K; node++ {
					pieces = append(pieces, impl.Piece{Node: node, Data: mixedBytes(pieceSize(c), seed*100+node)})
				}
				requirePiecesOfDecoded(t, c, pieces)
			}
		}
	}
}

// requirePiecesOfDecoded checks that the first K pieces are those of the decoded data, and returns these data.
func requirePiecesOfDecoded(t *testing.T, c impl.Msr, pieces []impl.Piece) []byte {
	t.Helper()
	data, ok := impl.DecodeMsr(c, pieces)
	if !ok || len(data) != msrSize(c) {
		t.Fatalf("DecodeMsr of %v with %v: %v, %v", pieces, c, data, ok)
	}
	made := longPieces(c, data)
	for _, piece := range pieces[:c.K] {
		if !samePiece(made[piece.Node], piece) {
			t.Fatalf("DecodeMsr of %v with %v: %v, whose piece is %v", pieces, c, data, made[piece.Node])
		}
	}
	return data
}

func TestMorePiecesDecode(t *testing.T) {
	for _, c := range smallMsrs() {
		data := mixedBytes(msrSize(c), 9)
		pieces := longPieces(c, data)
		for _, places := range subsets(c.N, c.K) {
			requireMsrDecoded(t, c, pickedPieces(pieces, places), data)
		}
	}
	for _, c := range allMsrs() {
		data := mixedBytes(msrSize(c), 10)
		requireMsrDecoded(t, c, longPieces(c, data), data)
	}
}

// The first K pieces determine the data; what the others hold is not looked at.
func TestDecodeMsrUsesTheFirstPieces(t *testing.T) {
	for _, c := range allMsrs() {
		data := mixedBytes(msrSize(c), 11)
		right := longPieces(c, data)
		for place := range right {
			for position := range pieceSize(c) {
				wrong := spoiledPieces(right, place, position, 0x21)
				if place >= c.K {
					requireMsrDecoded(t, c, wrong, data)
				} else if got := requirePiecesOfDecoded(t, c, wrong); bytes.Equal(got, data) {
					t.Errorf("DecodeMsr with %v does not see a change of piece %d", c, place)
				}
			}
		}
	}
}

func TestHelpByHand(t *testing.T) {
	for _, check := range []struct {
		code  impl.Msr
		piece impl.Piece
		lost  int
		want  byte
	}{
		// A single byte is handed over as it is.
		{msrCode(3, 2), impl.Piece{Node: 0, Data: []byte{0x99}}, 1, 0x99},
		{msrCode(14, 2), impl.Piece{Node: 13, Data: []byte{0x99}}, 12, 0x99},
		// 6 is 3 times 2, and 10 is 5 times 2.
		{msrCode(5, 3), impl.Piece{Node: 4, Data: []byte{1, 2}}, 0, 1 ^ 6},
		{msrCode(5, 3), impl.Piece{Node: 0, Data: []byte{1, 2}}, 1, 1 ^ 10},
		// 3 and 5 are the first and the second power of 3.
		{msrCode(7, 4), impl.Piece{Node: 6, Data: []byte{1, 1, 1}}, 0, 1 ^ 3 ^ 5},
		{msrCode(7, 4), impl.Piece{Node: 6, Data: []byte{0, 0, 0}}, 0, 0},
	} {
		got, ok := impl.HelpFor(check.code, check.piece, check.lost)
		if !ok || got != (impl.Help{Node: check.piece.Node, Byte: check.want}) {
			t.Errorf("HelpFor %d by %v: %v, %v, want %d", check.lost, check.piece, got, ok, check.want)
		}
	}
}

func TestHelpOfEveryPiece(t *testing.T) {
	for _, c := range allMsrs() {
		for _, data := range dataOfMsr(c) {
			for _, piece := range longPieces(c, data) {
				for _, lost := range without(allNodes(c), piece.Node) {
					if got, ok := impl.HelpFor(c, piece, lost); !ok || got != longHelp(piece, lost) {
						t.Errorf("HelpFor %d by %v with %v: %v, %v", lost, piece, c, got, ok)
					}
				}
			}
		}
	}
}

func TestEveryLostPieceIsRegenerated(t *testing.T) {
	for _, c := range allMsrs() {
		pieces := encodedMsr(t, c, mixedBytes(msrSize(c), 12))
		for lost := range pieces {
			others := slices.Delete(slices.Clone(pieces), lost, lost+1)
			helps := slices.Insert(helpsFor(t, c, others, lost), lost, impl.Help{})
			for _, helpers := range otherChoices(c, lost) {
				var some []impl.Help
				for _, node := range helpers {
					some = append(some, helps[node])
				}
				requireRegenerated(t, c, some, pieces[lost])
			}
		}
	}
}

func TestPiecesOfSeveralDataAreRegenerated(t *testing.T) {
	for _, c := range allMsrs() {
		for _, data := range dataOfMsr(c) {
			pieces := longPieces(c, data)
			for lost := range pieces {
				lists := otherChoices(c, lost)
				for _, helpers := range [][]int{lists[0], lists[len(lists)/2], lists[len(lists)-1]} {
					requireRegenerated(t, c, helpsFor(t, c, pickedPieces(pieces, helpers), lost), pieces[lost])
				}
			}
		}
	}
}

// Helps that belong to no data yield what the document says of the bytes y, too.
func TestRegeneratedFromAnyHelps(t *testing.T) {
	for _, c := range allMsrs() {
		for lost := range c.N {
			lists := otherChoices(c, lost)
			for step, helpers := range [][]int{lists[0], lists[len(lists)/3], lists[len(lists)-1]} {
				y := mixedBytes(helperCount(c), 7*lost+step)
				column := matrixWith(len(y), 1, func(i, j int) byte { return y[i] })
				var helps []impl.Help
				for i, row := range longMatrixProduct(longMsrRows(c, helpers), column).Rows {
					helps = append(helps, impl.Help{Node: helpers[i], Byte: row[0]})
				}
				want := impl.Piece{Node: lost, Data: make([]byte, pieceSize(c))}
				for i := range want.Data {
					want.Data[i] = y[i] ^ longProduct(longFactor(c, lost), y[pieceSize(c)+i])
				}
				requireRegenerated(t, c, helps, want)
			}
		}
	}
}

// Every node is lost once and regenerated by others, most of which have been regenerated themselves.
func TestRegeneratedPiecesHelpAndDecode(t *testing.T) {
	for _, c := range allMsrs() {
		data := mixedBytes(msrSize(c), 13)
		right := longPieces(c, data)
		pieces := encodedMsr(t, c, data)
		for lost := range pieces {
			pieces[lost] = impl.Piece{}
			lists := otherChoices(c, lost)
			helpers := lists[(5*lost+1)%len(lists)]
			piece, ok := impl.RegeneratePiece(c, lost, helpsFor(t, c, pickedPieces(pieces, helpers), lost))
			if !ok {
				t.Fatalf("RegeneratePiece %d by %v with %v fails", lost, helpers, c)
			}
			pieces[lost] = piece
		}
		if !samePieces(pieces, right) {
			t.Errorf("the pieces with %v became %v", c, pieces)
		}
		requireMsrDecoded(t, c, pieces[c.N-c.K:], data)
	}
}
