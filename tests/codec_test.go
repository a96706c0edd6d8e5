package tests

import (
	"bytes"
	"math"
	"slices"
	"strings"
	"testing"

	"loop.example/g00844/impl"
)

// rawNum writes any number, one that may not stand in bytes too.
func rawNum(x int) []byte {
	rest := 2 * uint64(x)
	if x < 0 {
		rest = 2*uint64(-(x+1)) + 1
	}
	var b []byte
	for rest > 127 {
		b = append(b, byte(rest%128)+128)
		rest /= 128
	}
	return append(b, byte(rest))
}

// longer writes the number of b again, with needless groups behind it.
func longer(b []byte, groups int) []byte {
	out := bytes.Clone(b)
	for range groups {
		out[len(out)-1] += 128
		out = append(out, 0)
	}
	return out
}

// A piece of what is written is a number, or the letters of a word.
type piece struct {
	bytes []byte
	num   bool
}

func numPieces(list ...int) []piece {
	var pieces []piece
	for _, x := range list {
		pieces = append(pieces, piece{rawNum(x), true})
	}
	return pieces
}

func wordPieces(w string) []piece {
	return append(numPieces(len(w)), piece{[]byte(w), false})
}

// nodePieces writes what is no node as well as what is one.
func nodePieces(n impl.Node) []piece {
	slot := 0
	if n.Slot {
		slot = 1
	}
	pieces := numPieces(n.Kind)
	switch n.Kind {
	case impl.NodeScan:
		return append(pieces, wordPieces(n.Name)...)
	case impl.NodeFilter:
		return append(pieces, numPieces(n.Col, n.Op, slot, n.Num)...)
	case impl.NodeKeep:
		return append(append(pieces, numPieces(len(n.Cols))...), numPieces(n.Cols...)...)
	case impl.NodeJoin:
		return append(pieces, numPieces(n.Col, n.Num)...)
	case impl.NodeSort:
		return append(pieces, numPieces(n.Col)...)
	case impl.NodeLimit:
		return append(pieces, numPieces(slot, n.Num)...)
	}
	return pieces
}

// countedPieces tells a number of nodes that need not be how many there are.
func countedPieces(count int, p []impl.Node) []piece {
	pieces := numPieces(count)
	for _, n := range p {
		pieces = append(pieces, nodePieces(n)...)
	}
	return pieces
}

func planPieces(p []impl.Node) []piece { return countedPieces(len(p), p) }

func written(pieces []piece) []byte {
	var b []byte
	for _, x := range pieces {
		b = append(b, x.bytes...)
	}
	return b
}

// otherwise writes the pieces again and again, each time with one number in another way.
func otherwise(pieces []piece) [][]byte {
	var all [][]byte
	for i, x := range pieces {
		for groups := 1; x.num && groups <= 3; groups++ {
			other := slices.Clone(pieces)
			other[i].bytes = longer(x.bytes, groups)
			all = append(all, written(other))
		}
	}
	return all
}

func framed(parts ...[]byte) []byte {
	f, ok := impl.Frame(join(parts...))
	if !ok {
		panic("too long for a frame")
	}
	return f
}

func isNodeAt(t *testing.T, b []byte, at int, want impl.Node, next int) {
	t.Helper()
	got, to := impl.TakeNode(b, at)
	if !sameNodes([]impl.Node{got}, []impl.Node{want}) || to != next {
		t.Errorf("TakeNode(%v, %d) = %+v, %d, want %+v, %d", b, at, got, to, want, next)
	}
}

func noNodeAt(t *testing.T, b []byte, at int) {
	t.Helper()
	isNodeAt(t, b, at, impl.Node{}, -1)
}

func TestPutNodeBytes(t *testing.T) {
	for _, c := range []struct {
		n    impl.Node
		want []byte
	}{
		{scan("a"), []byte{0, 2, 'a'}}, {scan("t1"), []byte{0, 4, 't', '1'}}, {scan("abcdefghijkl"), append([]byte{0, 24}, "abcdefghijkl"...)},
		{filter(0, impl.OpSame, 0), []byte{2, 0, 0, 0, 0}}, {filter(63, impl.OpLess, 1), []byte{2, 126, 2, 0, 2}}, {filter(2, impl.OpMore, -1), []byte{2, 4, 4, 0, 1}}, {filter(3, impl.OpNone, 0), []byte{2, 6, 6, 0, 0}},
		{filter(1, impl.OpSame, impl.MaxNum), []byte{2, 2, 0, 0, 128, 137, 122}}, {filter(1, impl.OpMore, -impl.MaxNum), []byte{2, 2, 4, 0, 255, 136, 122}}, {filter(1, impl.OpLess, 64), []byte{2, 2, 2, 0, 128, 1}},
		{asSlot(filter(1, impl.OpLess, 2)), []byte{2, 2, 2, 2, 4}}, {asSlot(filter(63, impl.OpSame, 0)), []byte{2, 126, 0, 2, 0}}, {asSlot(filter(0, impl.OpMore, 39)), []byte{2, 0, 4, 2, 78}},
		{keep(0), []byte{4, 2, 0}}, {keep(63), []byte{4, 2, 126}}, {keep(1, 0, 1), []byte{4, 6, 2, 0, 2}}, {keep(0, 1, 2, 3, 4, 63), []byte{4, 12, 0, 2, 4, 6, 8, 126}},
		{joinOn(0, 0), []byte{6, 0, 0}}, {joinOn(63, 1), []byte{6, 126, 2}}, {joinOn(1, 63), []byte{6, 2, 126}},
		{both(), []byte{8}}, {sortBy(0), []byte{10, 0}}, {sortBy(63), []byte{10, 126}},
		{limit(0), []byte{12, 0, 0}}, {limit(impl.MaxNum), []byte{12, 0, 128, 137, 122}}, {limit(40), []byte{12, 0, 80}}, {asSlot(limit(0)), []byte{12, 2, 0}}, {asSlot(limit(39)), []byte{12, 2, 78}},
		{once(), []byte{14}}, {impl.Node{Kind: impl.NodeOnce, Cols: []int{}}, []byte{14}},
	} {
		if got := impl.PutNode(c.n); !bytes.Equal(got, c.want) {
			t.Errorf("PutNode(%+v) = %v, want %v", c.n, got, c.want)
		}
		isNodeAt(t, c.want, 0, c.n, len(c.want))
	}
}

// everyNode has each column, each Op and each slot, and numbers at the ends of one, two and three bytes.
func everyNode() []impl.Node {
	ends := []int{0, 1, 39, 40, 63, 64, 127, 128, 8191, 8192, impl.MaxNum - 1, impl.MaxNum}
	nodes := fitNodes()
	for col := range 64 {
		nodes = append(nodes, sortBy(col), keep(col), keep(0, 1, 2, 3, 4, col), keep(col, col), filter(col, impl.OpNone, 0))
		for op := impl.OpSame; op <= impl.OpMore; op++ {
			for _, x := range ends {
				nodes = append(nodes, filter(col, op, x), filter(col, op, -x))
			}
			for slot := range impl.MaxNodes {
				nodes = append(nodes, asSlot(filter(col, op, slot)))
			}
		}
		for right := range 64 {
			nodes = append(nodes, joinOn(col, right))
		}
	}
	for _, x := range ends {
		nodes = append(nodes, limit(x))
	}
	for slot := range impl.MaxNodes {
		nodes = append(nodes, asSlot(limit(slot)), limit(slot))
	}
	for length := 1; length <= impl.MaxWord; length++ {
		nodes = append(nodes, scan("abcdefghijkl"[:length]), scan("z"+strings.Repeat("9", length-1)))
	}
	for count := 1; count <= impl.MaxCols; count++ {
		nodes = append(nodes, keep(make([]int, count)...))
	}
	return nodes
}

func TestEveryNodeIsTakenAgain(t *testing.T) {
	for _, n := range everyNode() {
		put := impl.PutNode(n)
		if want := written(nodePieces(n)); !bytes.Equal(put, want) {
			t.Errorf("PutNode(%+v) = %v, want %v", n, put, want)
		}
		isNodeAt(t, put, 0, n, len(put))
		isNodeAt(t, join([]byte{128, 14}, put, []byte{255, 0}), 2, n, 2+len(put))
		// What stands behind a node may be of any kind: it is no part of it.
		isNodeAt(t, join(put, put), 0, n, len(put))
		isNodeAt(t, join(put, put), len(put), n, 2*len(put))
		for end := range put {
			noNodeAt(t, put[:end], 0)
		}
	}
}

// What is no node is not written; and its bytes, written all the same, are not read.
func TestNoNodeHasBytes(t *testing.T) {
	for _, n := range append(unfitNodes(), impl.Node{Kind: impl.NodeOnce, Num: 1}, impl.Node{Kind: impl.NodeScan, Name: "t1", Cols: []int{0}}, impl.Node{Kind: impl.NodeSort, Slot: true}, impl.Node{Kind: impl.NodeKeep, Cols: []int{0}, Col: 1}) {
		if got := impl.PutNode(n); len(got) != 0 {
			t.Errorf("PutNode(%+v) = %v, want nothing", n, got)
		}
	}
	for _, n := range unfitNodes() {
		b := written(nodePieces(n))
		noNodeAt(t, b, 0)
		noNodeAt(t, join(b, make([]byte, 20)), 0)
	}
}

func TestFlagsAreNoughtOrOne(t *testing.T) {
	flags := []int{impl.MaxNum, -impl.MaxNum, impl.MaxNum + 1, 8191, 8192, -8192, math.MaxInt, math.MinInt}
	for flag := -300; flag <= 300; flag++ {
		flags = append(flags, flag)
	}
	for _, flag := range flags {
		for _, num := range []int{0, 1, 39} {
			inFilter, inLimit := written(numPieces(1, 5, impl.OpLess, flag, num)), written(numPieces(6, flag, num))
			switch flag {
			case 0:
				isNodeAt(t, inFilter, 0, filter(5, impl.OpLess, num), len(inFilter))
				isNodeAt(t, inLimit, 0, limit(num), len(inLimit))
			case 1:
				isNodeAt(t, inFilter, 0, asSlot(filter(5, impl.OpLess, num)), len(inFilter))
				isNodeAt(t, inLimit, 0, asSlot(limit(num)), len(inLimit))
			default:
				noNodeAt(t, inFilter, 0)
				noNodeAt(t, inLimit, 0)
				if p, code := impl.DecodePlan(framed(rawNum(2), inLimit, impl.PutNode(scan("a")))); len(p) != 0 || code != impl.ReadNode {
					t.Errorf("a flag of %d: DecodePlan = %v, %d", flag, p, code)
				}
			}
		}
	}
	// A filter of OpNone has no slot, whatever its flag.
	for _, flag := range []int{-1, 1, 2, impl.MaxNum} {
		noNodeAt(t, written(numPieces(1, 0, impl.OpNone, flag, 0)), 0)
	}
}

func TestFieldsBeyondTheirEnds(t *testing.T) {
	for col := -3; col <= 70; col++ {
		for op := -2; op <= 6; op++ {
			b := written(numPieces(1, col, op, 0, 0))
			if 0 <= col && col <= 63 && 0 <= op && op <= 3 {
				isNodeAt(t, b, 0, filter(col, op, 0), len(b))
			} else {
				noNodeAt(t, b, 0)
			}
		}
	}
	for count := -2; count <= 10; count++ {
		for have := range 11 {
			b := written(numPieces(append([]int{2, count}, make([]int, have)...)...))
			if 1 <= count && count <= impl.MaxCols && count <= have {
				isNodeAt(t, b, 0, keep(make([]int, count)...), 2+count)
			} else {
				noNodeAt(t, b, 0)
			}
		}
	}
	for _, count := range []int{impl.MaxList, impl.MaxList + 1, impl.MaxNum, -impl.MaxNum} {
		noNodeAt(t, join(rawNum(2), rawNum(count), make([]byte, 400)), 0)
	}
	for length := range 20 {
		b := written(append(numPieces(0), wordPieces(strings.Repeat("a", length))...))
		if 1 <= length && length <= impl.MaxWord {
			isNodeAt(t, b, 0, scan(strings.Repeat("a", length)), len(b))
		} else {
			noNodeAt(t, b, 0)
		}
	}
	for kind := -3; kind <= 20; kind++ {
		b := join(rawNum(kind), make([]byte, 10))
		if _, next := impl.TakeNode(b, 0); (next != -1) != slices.Contains([]int{1, 3, 4, 5, 6, 7}, kind) {
			t.Errorf("a Kind of %d and noughts: %d", kind, next)
		}
	}
}

// A number stands in one way alone, wherever it stands.
func TestNumberOfANodeWrittenOtherwise(t *testing.T) {
	for _, n := range fitNodes() {
		for _, b := range otherwise(nodePieces(n)) {
			noNodeAt(t, b, 0)
			noNodeAt(t, join(b, make([]byte, 5)), 0)
		}
	}
}

func TestNoPlaceForANode(t *testing.T) {
	for _, n := range fitNodes() {
		b := impl.PutNode(n)
		for _, at := range noPlaces(b) {
			noNodeAt(t, b, at)
		}
	}
	noNodeAt(t, nil, 0)
	noNodeAt(t, []byte{}, -1)
	// What stands behind the end of a slice is not part of it, though its memory goes on.
	noNodeAt(t, []byte{14}[:0], 0)
	noNodeAt(t, []byte{0, 2, 'a'}[:2], 0)
}

// shortNums are the numbers that are written with these bytes alone, by how they are written.
func shortNums(letters []byte) map[string]int {
	nums := map[string]int{}
	for x := -impl.MaxNum; x <= impl.MaxNum; x++ {
		b := rawNum(x)
		if !slices.ContainsFunc(b, func(c byte) bool { return !bytes.Contains(letters, []byte{c}) }) {
			nums[string(b)] = x
		}
	}
	return nums
}

// shortNodes are the nodes that are written with these bytes alone, of the keeps those with up to three columns and of the scans those with up to five letters, by how they are written.
func shortNodes(letters []byte, nums map[string]int) map[string]impl.Node {
	nodes := map[string]impl.Node{}
	add := func(n impl.Node) {
		b := written(nodePieces(n))
		if impl.NodeOk(n) && !slices.ContainsFunc(b, func(c byte) bool { return !bytes.Contains(letters, []byte{c}) }) {
			nodes[string(b)] = n
		}
	}
	add(both())
	add(once())
	for _, x := range nums {
		add(limit(x))
		add(asSlot(limit(x)))
		add(sortBy(x))
		add(keep(x))
		for _, y := range nums {
			add(joinOn(x, y))
			add(keep(x, y))
			for op := impl.OpSame; op <= impl.OpNone; op++ {
				add(filter(x, op, y))
				add(asSlot(filter(x, op, y)))
			}
			for _, z := range nums {
				add(keep(x, y, z))
			}
		}
	}
	everyBytes(bytes.Map(keepWordLetters, letters), 5, func(b []byte) { add(scan(string(b))) })
	return nodes
}

// keepWordLetters has -1 for what cannot stand in a word.
func keepWordLetters(c rune) rune {
	if 'a' <= c && c <= 'z' || '0' <= c && c <= '9' {
		return c
	}
	return -1
}

// everyBytes visits all lists of up to that many of these bytes, in memory that it uses again.
func everyBytes(letters []byte, most int, visit func([]byte)) {
	b := make([]byte, 0, most)
	var grow func()
	grow = func() {
		visit(b)
		if len(b) == most {
			return
		}
		for _, c := range letters {
			b = append(b, c)
			grow()
			b = b[:len(b)-1]
		}
	}
	grow()
}

// standing is what stands at the front of b, and the place behind it.
func standing[T any](all map[string]T, b []byte) (T, int) {
	for end := range len(b) + 1 {
		if x, there := all[string(b[:end])]; there {
			return x, end
		}
	}
	var none T
	return none, -1
}

// All bytes of up to five of these letters are read as a node just where they begin with the bytes of one.
func TestEveryShortNode(t *testing.T) {
	letters := []byte{0, 1, 2, 4, 6, 8, 10, 12, 14, 16, 78, 80, 126, 128, 'a', '1'}
	nodes := shortNodes(letters, shortNums(letters))
	taken := 0
	everyBytes(letters, 5, func(b []byte) {
		want, next := standing(nodes, b)
		if got, to := impl.TakeNode(b, 0); to != next || !sameNodes([]impl.Node{got}, []impl.Node{want}) {
			t.Fatalf("TakeNode(%v, 0) = %+v, %d, want %+v, %d", b, got, to, want, next)
		}
		if next == len(b) {
			taken++
		}
	})
	if taken < 1000 || taken > len(nodes) {
		t.Errorf("%d nodes were taken, of %d", taken, len(nodes))
	}
}

func readsAs(t *testing.T, name string, b []byte, want []impl.Node, code int) {
	t.Helper()
	got, gotCode := impl.DecodePlan(b)
	if gotCode != code || !sameNodes(got, want) {
		t.Errorf("%s: DecodePlan(%v) = %v, %d, want %v, %d", name, b, got, gotCode, want, code)
	}
}

func refusedAs(t *testing.T, name string, b []byte, code int) {
	t.Helper()
	readsAs(t, name, b, nil, code)
}

// asWritten asks that what is read, if anything is, is written as just these bytes again; it tells the plan.
func asWritten(t *testing.T, b []byte) ([]impl.Node, bool) {
	t.Helper()
	p, code := impl.DecodePlan(b)
	if code != impl.ReadFine {
		if len(p) != 0 || code < impl.ReadFrame || code > impl.ReadRest {
			t.Errorf("DecodePlan(%v) = %v, %d", b, p, code)
		}
		return nil, false
	}
	if again, ok := impl.EncodePlan(p); !ok || !impl.PlanOk(p) || !bytes.Equal(again, b) {
		t.Errorf("%v is read as %v, which is written as %v, %v", b, p, again, ok)
	}
	return p, true
}

func TestPlanBytes(t *testing.T) {
	for _, c := range []struct {
		p    []impl.Node
		want []byte
		sum  int
	}{
		{[]impl.Node{scan("t1")}, []byte{'P', 'S', 10, 2, 0, 4, 't', '1', 244, 157, 26}, 579174},
		{[]impl.Node{asSlot(filter(1, impl.OpLess, 2)), scan("t1")}, []byte{'P', 'S', 20, 4, 2, 2, 2, 2, 4, 0, 4, 't', '1', 160, 197, 94}, 668230},
	} {
		if got, ok := impl.EncodePlan(c.p); !ok || !bytes.Equal(got, c.want) {
			t.Errorf("EncodePlan(%v) = %v, %v, want %v", c.p, got, ok, c.want)
		}
		if got := impl.PlanSum(c.p); got != c.sum {
			t.Errorf("PlanSum(%v) = %d, want %d", c.p, got, c.sum)
		}
		readsAs(t, "given bytes", c.want, c.p, impl.ReadFine)
	}
}

// Promise 5, its first half.
func TestPlanHasOneWayOfBytes(t *testing.T) {
	for _, p := range ordinaryPlans() {
		b, ok := impl.EncodePlan(p)
		if want := framed(written(planPieces(p))); !ok || !bytes.Equal(b, want) {
			t.Errorf("EncodePlan(%v) = %v, %v, want %v", p, b, ok, want)
		}
		if got, want := impl.PlanSum(p), impl.CheckOf(b); got != want {
			t.Errorf("PlanSum(%v) = %d, want %d", p, got, want)
		}
		readsAs(t, "a plan", b, p, impl.ReadFine)
		for _, other := range otherwise(planPieces(p)) {
			refusedAs(t, "a number written otherwise", framed(other), impl.ReadNode)
		}
		body := written(planPieces(p))
		for _, other := range [][]byte{
			rawFrame(longer(rawNum(len(body)), 1), body, rawNum(impl.CheckOf(body))),
			rawFrame(rawNum(len(body)), body, longer(rawNum(impl.CheckOf(body)), 1)),
		} {
			refusedAs(t, "a frame written otherwise", other, impl.ReadFrame)
		}
	}
}

// Promise 5, its second half.
func TestCutOrTurnedBytesAreNotThePlan(t *testing.T) {
	for _, p := range ordinaryPlans() {
		b, _ := impl.EncodePlan(p)
		for end := range b {
			refusedAs(t, "cut behind", b[:end], impl.ReadFrame)
			refusedAs(t, "cut ahead", b[end+1:], impl.ReadFrame)
		}
		for i := range b {
			for d := 1; d < 256; d++ {
				turned := bytes.Clone(b)
				turned[i] += byte(d)
				if got, ok := asWritten(t, turned); ok && sameNodes(got, p) {
					t.Fatalf("%v is read with %d at %d", p, turned[i], i)
				}
			}
		}
	}
}

// The frame fits again, so that the reader of nodes alone can see what was done.
func TestCutOrTurnedBodiesAreNotThePlan(t *testing.T) {
	read := 0
	for _, p := range ordinaryPlans() {
		body := written(planPieces(p))
		for end := range body {
			refusedAs(t, "a body cut behind", framed(body[:end]), impl.ReadNode)
			if got, ok := asWritten(t, framed(body[end+1:])); ok && sameNodes(got, p) {
				t.Errorf("%v is read without its first %d bytes", p, end+1)
			}
		}
		for i := range body {
			for d := 1; d < 256; d++ {
				turned := bytes.Clone(body)
				turned[i] += byte(d)
				got, ok := asWritten(t, framed(turned))
				if ok && sameNodes(got, p) {
					t.Fatalf("%v is read with %d at %d of its body", p, turned[i], i)
				}
				if ok {
					read++
				}
			}
		}
		for c := range 256 {
			refusedAs(t, "a byte behind", framed(body, []byte{byte(c)}), impl.ReadRest)
		}
		refusedAs(t, "the nodes twice", framed(body, body[1:]), impl.ReadRest)
	}
	// Another letter of a name, or another number, is another plan.
	if read < 1000 {
		t.Errorf("only %d other plans were read", read)
	}
}

func TestNoTwoPlansHaveTheSameBytes(t *testing.T) {
	seen := map[string]bool{}
	plans := everyPlan(append(evalNodes(), asSlot(limit(0)), asSlot(filter(0, impl.OpSame, 1)), scan("ab"), keep(0, 0)), 4)
	for _, p := range plans {
		b, ok := impl.EncodePlan(p)
		if !ok || seen[string(b)] {
			t.Fatalf("%v has the bytes of another plan", p)
		}
		seen[string(b)] = true
		readsAs(t, "a short plan", b, p, impl.ReadFine)
	}
	if len(plans) < 10000 {
		t.Errorf("only %d plans", len(plans))
	}
}

// wantRead reads a body as the chapter says, by the bytes of all numbers and nodes that may stand in it.
func wantRead(nums map[string]int, nodes map[string]impl.Node, body []byte) ([]impl.Node, int) {
	count, at := standing(nums, body)
	if at == -1 || count < 0 || count > impl.MaxNodes {
		return nil, impl.ReadNode
	}
	var p []impl.Node
	for range count {
		n, length := standing(nodes, body[at:])
		if length == -1 {
			return nil, impl.ReadNode
		}
		p = append(p, n)
		at += length
	}
	switch {
	case at < len(body):
		return nil, impl.ReadRest
	case len(p) == 0 || wantEnd(p, 0) != len(p) || wantDepth(p) > impl.MaxDepth:
		return nil, impl.ReadPlan
	}
	return p, impl.ReadFine
}

// All bodies of up to that many of these letters.
func TestEveryShortBody(t *testing.T) {
	for most, letters := range map[int][]byte{4: {0, 1, 2, 4, 6, 8, 10, 12, 14, 16, 80, 82, 126, 128, 'a', '1'}, 6: {0, 2, 4, 6, 12, 14, 'a', 128}, 8: {0, 2, 6, 8, 'a'}} {
		nums := shortNums(letters)
		nodes := shortNodes(letters, nums)
		codes := map[int]int{}
		everyBytes(letters, most, func(body []byte) {
			want, code := wantRead(nums, nodes, body)
			if got, gotCode := impl.DecodePlan(framed(body)); gotCode != code || !sameNodes(got, want) {
				t.Fatalf("the body %v is read as %v, %d, want %v, %d", body, got, gotCode, want, code)
			}
			codes[code]++
		})
		for _, code := range []int{impl.ReadFine, impl.ReadNode, impl.ReadPlan, impl.ReadRest} {
			if codes[code] == 0 {
				t.Errorf("no body of the letters %v has the code %d", letters, code)
			}
		}
	}
}

func TestNumberOfNodes(t *testing.T) {
	for nodes := 1; nodes <= 60; nodes++ {
		p := bushyOf(nodes)
		if nodes <= impl.MaxNodes {
			readsAs(t, "that many nodes", framed(written(planPieces(p))), p, impl.ReadFine)
		} else {
			refusedAs(t, "too many nodes", framed(written(planPieces(p))), impl.ReadNode)
		}
		// The number is 1 less, or 1 more, than the nodes that stand there.
		if nodes <= impl.MaxNodes+1 {
			refusedAs(t, "one less", framed(written(countedPieces(nodes-1, p))), impl.ReadRest)
		}
		refusedAs(t, "one more", framed(written(countedPieces(nodes+1, p))), impl.ReadNode)
	}
	scans := slices.Repeat([]impl.Node{scan("a")}, 50)
	for _, c := range []struct {
		count int
		nodes int
		code  int
	}{
		{0, 0, impl.ReadPlan}, {0, 1, impl.ReadRest}, {1, 0, impl.ReadNode}, {1, 1, impl.ReadFine}, {1, 2, impl.ReadRest}, {2, 2, impl.ReadPlan}, {2, 3, impl.ReadRest}, {2, 1, impl.ReadNode},
		{39, 39, impl.ReadPlan}, {40, 40, impl.ReadPlan}, {40, 41, impl.ReadRest}, {40, 39, impl.ReadNode}, {40, 0, impl.ReadNode},
		{41, 41, impl.ReadNode}, {41, 42, impl.ReadNode}, {41, 40, impl.ReadNode}, {41, 0, impl.ReadNode}, {42, 42, impl.ReadNode}, {64, 50, impl.ReadNode},
		{-1, 0, impl.ReadNode}, {-1, 1, impl.ReadNode}, {-40, 40, impl.ReadNode}, {impl.MaxNum, 1, impl.ReadNode}, {-impl.MaxNum, 1, impl.ReadNode}, {impl.MaxNum + 1, 1, impl.ReadNode}, {math.MaxInt, 0, impl.ReadNode}, {math.MinInt, 0, impl.ReadNode},
	} {
		want := []impl.Node(nil)
		if c.code == impl.ReadFine {
			want = scans[:1]
		}
		readsAs(t, "scans", framed(written(countedPieces(c.count, scans[:c.nodes]))), want, c.code)
	}
}

// The codes are numbers that are told to others, by these numbers.
func TestReadCodes(t *testing.T) {
	if got := [...]int{impl.ReadFine, impl.ReadFrame, impl.ReadNode, impl.ReadPlan, impl.ReadRest}; got != [...]int{0, 1, 2, 3, 4} {
		t.Errorf("the codes are %v", got)
	}
}

// Where several are so, the one that the chapter names first counts.
func TestWhichCodeCounts(t *testing.T) {
	one, noNode, deep := impl.PutNode(scan("a")), written(nodePieces(sortBy(64))), written(planPieces(chain(impl.MaxDepth+1)))
	fine := framed(rawNum(1), one)
	for _, c := range []struct {
		name string
		b    []byte
		code int
	}{
		{"nothing", nil, impl.ReadFrame}, {"no bytes, not nil", []byte{}, impl.ReadFrame}, {"a head alone", []byte("PS"), impl.ReadFrame}, {"a body alone", join(rawNum(1), one), impl.ReadFrame}, {"a byte behind the frame", join(fine, []byte{0}), impl.ReadFrame}, {"two frames", join(fine, fine), impl.ReadFrame}, {"a frame in a frame", framed(fine), impl.ReadNode},
		{"a frame that does not fit, with no node", rawFrame(rawNum(2), join(rawNum(1), noNode[:1]), rawNum(7)), impl.ReadFrame}, {"a frame that does not fit, with bytes behind the node", rawFrame(rawNum(5), join(rawNum(1), one, []byte{0}), rawNum(7)), impl.ReadFrame}, {"a frame that does not fit, with no plan", rawFrame(rawNum(1), rawNum(0), rawNum(7)), impl.ReadFrame},
		{"an empty body", framed(), impl.ReadNode}, {"half a number of nodes", framed([]byte{128}), impl.ReadNode}, {"nought written otherwise", framed([]byte{128, 0}), impl.ReadNode},
		{"no node", framed(rawNum(1), noNode), impl.ReadNode}, {"no node and bytes behind", framed(rawNum(1), noNode, one), impl.ReadNode}, {"no node in what is no plan", framed(rawNum(2), one, noNode), impl.ReadNode}, {"no node ahead of one", framed(rawNum(2), noNode, one), impl.ReadNode}, {"no node among too many", framed(rawNum(3), one, one, noNode), impl.ReadNode},
		{"a node that is cut", framed(rawNum(1), one[:2]), impl.ReadNode}, {"a node that is cut, behind a plan", framed(rawNum(2), one, one[:2]), impl.ReadNode}, {"a node that is cut, behind those that are counted", framed(rawNum(1), one, one[:2]), impl.ReadRest}, {"no node behind those that are counted", framed(rawNum(1), one, noNode), impl.ReadRest},
		{"bytes behind a plan", framed(rawNum(1), one, []byte{0}), impl.ReadRest}, {"a node behind a plan", framed(rawNum(1), one, one), impl.ReadRest}, {"bytes behind no plan", framed(rawNum(2), one, one, []byte{14}), impl.ReadRest}, {"bytes behind no nodes", framed(rawNum(0), []byte{0}), impl.ReadRest}, {"bytes behind what is too deep", framed(deep, []byte{0}), impl.ReadRest}, {"the node that is wanted, not counted", framed(rawNum(1), []byte{14}, one), impl.ReadRest},
		{"no nodes", framed(rawNum(0)), impl.ReadPlan}, {"too few nodes", framed(rawNum(1), []byte{14}), impl.ReadPlan}, {"too few nodes for both", framed(rawNum(2), []byte{8}, one), impl.ReadPlan}, {"too many nodes", framed(rawNum(2), one, one), impl.ReadPlan}, {"too deep", framed(deep), impl.ReadPlan},
	} {
		refusedAs(t, c.name, c.b, c.code)
	}
	readsAs(t, "one scan", fine, []impl.Node{scan("a")}, impl.ReadFine)
	readsAs(t, "as deep as may be", framed(written(planPieces(chain(impl.MaxDepth)))), chain(impl.MaxDepth), impl.ReadFine)
}

func TestNoPlanHasBytes(t *testing.T) {
	for name, p := range noPlans() {
		if b, ok := impl.EncodePlan(p); ok || len(b) != 0 {
			t.Errorf("%s: EncodePlan = %v, %v", name, b, ok)
		}
		if sum := impl.PlanSum(p); sum != -1 {
			t.Errorf("%s: PlanSum = %d", name, sum)
		}
		// A field that its Kind does not name is not written: the bytes are those of a plan.
		if name == "a field that is not so" || len(p) > 100 {
			continue
		}
		code := impl.ReadPlan
		if len(p) > impl.MaxNodes || slices.ContainsFunc(p, func(n impl.Node) bool { return !impl.NodeOk(n) }) {
			code = impl.ReadNode
		}
		refusedAs(t, name, framed(written(planPieces(p))), code)
	}
	for _, n := range unfitNodes() {
		for _, p := range [][]impl.Node{{n}, {n, scan("a")}, {n, scan("a"), scan("a")}, {once(), n}, {both(), scan("a"), n}} {
			if b, ok := impl.EncodePlan(p); ok || len(b) != 0 || impl.PlanSum(p) != -1 {
				t.Errorf("%v has bytes", p)
			}
			if b := written(planPieces(p)); len(b) <= impl.MaxBytes {
				refusedAs(t, "what is no node", framed(b), impl.ReadNode)
			}
		}
	}
}

// made gives numbers below n that are the same each time.
func made(seed int) func(int) int {
	x := seed
	return func(n int) int {
		x = (x*1103515245 + 12345) % (1 << 31)
		return x >> 8 % n
	}
}

// Whatever the bytes, what is read of them is written as just these; they are put together of nodes, of pieces of them, and of any bytes.
func TestWhateverIsReadIsWrittenSo(t *testing.T) {
	next := made(7)
	nodes := append(everyNode(), slices.Repeat([]impl.Node{scan("a"), once(), both()}, 4000)...)
	read := 0
	for range 100000 {
		count := next(6)
		parts := [][]byte{rawNum(count)}
		for range count {
			b := impl.PutNode(nodes[next(len(nodes))])
			switch next(12) {
			case 0:
				b = b[:next(len(b))]
			case 1:
				b[next(len(b))] = byte(next(256))
			case 2:
				b = append(b, byte(next(256)))
			}
			parts = append(parts, b)
		}
		f := framed(parts...)
		if _, ok := asWritten(t, f); ok {
			read++
		}
		f[next(len(f))] = byte(next(256))
		asWritten(t, f)
		n, to := impl.TakeNode(f, next(len(f)))
		if b := impl.PutNode(n); to != -1 && (len(b) == 0 || !bytes.HasSuffix(f[:to], b)) {
			t.Errorf("%v is taken as %+v up to %d", f, n, to)
		}
	}
	if read < 1000 {
		t.Errorf("only %d plans were read", read)
	}
}

func TestBytesAnswersAreNewMemory(t *testing.T) {
	p := []impl.Node{joinOn(0, 0), keep(1, 2), scan("t1"), keep(1, 2), scan("t2")}
	kept := deepCopy(p)
	b, _ := impl.EncodePlan(p)
	keptBytes := bytes.Clone(b)
	got, _ := impl.DecodePlan(b)
	clear(b)
	if !sameNodes(got, kept) {
		t.Error("DecodePlan shares memory with its argument")
	}
	got[1].Cols[0] = 9
	_ = append(got[1].Cols, 8, 7, 6)
	if !slices.Equal(got[3].Cols, []int{1, 2}) {
		t.Error("two lists of one plan share memory")
	}
	got, _ = impl.DecodePlan(keptBytes)
	again := bytes.Clone(keptBytes)
	spoil(got)
	put := impl.PutNode(p[1])
	n, _ := impl.TakeNode(put, 0)
	clear(put)
	clear(b)
	if !sameNodes(p, kept) || !slices.Equal(n.Cols, []int{1, 2}) || !bytes.Equal(keptBytes, again) {
		t.Error("an answer shares memory with an argument")
	}
	word := impl.PutNode(scan("abc"))
	n, _ = impl.TakeNode(word, 0)
	clear(word)
	if n.Name != "abc" {
		t.Error("a name shares memory with its bytes")
	}
}

func TestBytesArgumentsStay(t *testing.T) {
	p := append(make([]impl.Node, 0, 20), keep(2, 1), scan("t1"))
	kept := deepCopy(p)
	full, _ := impl.EncodePlan(p)
	b := append(make([]byte, 0, 100), full...)
	impl.PutNode(p[0])
	impl.PlanSum(p)
	impl.DecodePlan(b)
	impl.DecodePlan(b[:len(b)-1])
	for at := range b {
		impl.TakeNode(b, at)
	}
	if !sameNodes(p, kept) || !sameNodes(p[:20][2:], make([]impl.Node, 18)) || !bytes.Equal(b, full) || slices.Max(b[:100][len(b):]) != 0 {
		t.Error("something is written into or behind an argument")
	}
}
