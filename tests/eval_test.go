package tests

import (
	"fmt"
	"math"
	"slices"
	"testing"

	"loop.example/g00844/impl"
)

const none = impl.None

func evalSchema() []impl.Table {
	return []impl.Table{table("a", 1), table("b", 2), table("c", 3)}
}

// evalStores are stores of evalSchema: without rows, with rows that are the same, with Nones, and with numbers at both ends.
func evalStores() [][][][]int {
	return [][][][]int{
		{nil, nil, nil},
		{{{1}}, {{1, 1}}, {{1, 1, 1}}},
		{{{none}}, {{none, none}}, {{none, none, none}}},
		{{{1}, {none}, {2}, {1}, {none}}, {{1, 5}, {2, none}, {1, 7}, {none, 5}, {1, 5}}, {{2, 1, none}, {2, 1, none}, {0, none, 1}}},
		{{{impl.MaxNum}, {-impl.MaxNum}, {none}}, {{none, -impl.MaxNum}, {-impl.MaxNum, none}, {impl.MaxNum, impl.MaxNum}}, nil},
		{nil, {{2, 2}, {1, 1}, {2, 1}, {1, 2}, {2, 2}}, {{3, 2, 1}, {1, 2, 3}, {2, 2, 2}, {3, 2, 0}}},
		madeStore(1, 4), madeStore(2, 9), madeStore(3, 16), madeStore(4, 40),
	}
}

// madeStore is a store of evalSchema with that many rows in each table, of few values, so that many are the same.
func madeStore(seed int, count int) [][][]int {
	x := seed
	var store [][][]int
	for _, t := range evalSchema() {
		var rows [][]int
		for range count {
			var row []int
			for range t.Width {
				x = (x*1103515245 + 12345) % (1 << 31)
				value := x >> 16 % 5
				if value == 4 {
					value = none
				}
				row = append(row, value)
			}
			rows = append(rows, row)
		}
		store = append(store, rows)
	}
	return store
}

// evalNodes make plans of which many are typed with evalSchema.
func evalNodes() []impl.Node {
	return []impl.Node{
		scan("a"), scan("b"), scan("c"),
		filter(0, impl.OpSame, 1), filter(1, impl.OpLess, 2), filter(0, impl.OpMore, 1), filter(1, impl.OpNone, 0),
		keep(0), keep(1, 0), keep(2, 0, 2), joinOn(0, 0), joinOn(1, 0), both(), sortBy(0), sortBy(1), limit(0), limit(2), once(),
	}
}

// typedPlans are those of up to four nodes that have a width.
func typedPlans() [][]impl.Node {
	return slices.DeleteFunc(everyPlan(evalNodes(), 4), func(p []impl.Node) bool { return wantWidth(evalSchema(), p) == -1 })
}

func sameLists(a [][]int, b [][]int) bool {
	return slices.EqualFunc(a, b, func(x []int, y []int) bool { return slices.Equal(x, y) })
}

func copyLists(rows [][]int) [][]int {
	out := make([][]int, len(rows))
	for i, row := range rows {
		out[i] = append([]int(nil), row...)
	}
	return out
}

// wantTaken reads the words of the chapter: a None is taken by OpNone alone, and that takes nothing else.
func wantTaken(value int, op int, num int) bool {
	number := value != none
	return op == impl.OpSame && number && value == num || op == impl.OpLess && number && value < num || op == impl.OpMore && number && value > num || op == impl.OpNone && !number
}

// wantSorted takes the Nones first, and then value by value what has it, in its order.
func wantSorted(rows [][]int, col int) [][]int {
	values := map[int][][]int{}
	var numbers []int
	for _, row := range rows {
		if values[row[col]] == nil && row[col] != none {
			numbers = append(numbers, row[col])
		}
		values[row[col]] = append(values[row[col]], row)
	}
	slices.Sort(numbers)
	out := slices.Clone(values[none])
	for _, x := range numbers {
		out = append(out, values[x]...)
	}
	return out
}

func wantOnce(rows [][]int) [][]int {
	seen := map[string]bool{}
	var out [][]int
	for _, row := range rows {
		if !seen[fmt.Sprint(row)] {
			out = append(out, row)
		}
		seen[fmt.Sprint(row)] = true
	}
	return out
}

func wantJoined(lefts [][]int, rights [][]int, left int, right int) [][]int {
	var out [][]int
	for _, a := range lefts {
		for _, b := range rights {
			if a[left] != none && b[right] != none && a[left] == b[right] {
				out = append(out, append(append([]int(nil), a...), b...))
			}
		}
	}
	return out
}

// wantNode has the rows of one node over those of its children.
func wantNode(s []impl.Table, store [][][]int, n impl.Node, below [][][]int) [][]int {
	var out [][]int
	switch n.Kind {
	case impl.NodeScan:
		out = store[slices.IndexFunc(s, func(t impl.Table) bool { return t.Name == n.Name })]
	case impl.NodeFilter:
		for _, row := range below[0] {
			if wantTaken(row[n.Col], n.Op, n.Num) {
				out = append(out, row)
			}
		}
	case impl.NodeKeep:
		for _, row := range below[0] {
			var kept []int
			for _, col := range n.Cols {
				kept = append(kept, row[col])
			}
			out = append(out, kept)
		}
	case impl.NodeJoin:
		out = wantJoined(below[0], below[1], n.Col, n.Num)
	case impl.NodeBoth:
		out = slices.Concat(below[0], below[1])
	case impl.NodeSort:
		out = wantSorted(below[0], n.Col)
	case impl.NodeLimit:
		out = below[0][:min(n.Num, len(below[0]))]
	case impl.NodeOnce:
		out = wantOnce(below[0])
	}
	return out
}

// wantEval reads a typed plan without slots from its end, with the rows that wait for a node above them, the next ones last. It tells the rows of each node by place, too.
func wantEval(s []impl.Table, store [][][]int, p []impl.Node) ([][]int, []int, int) {
	var waiting [][][]int
	sizes := make([]int, len(p))
	for k, n := range slices.Backward(p) {
		below := slices.Clone(waiting[len(waiting)-wantArity(n.Kind):])
		waiting = waiting[:len(waiting)-len(below)]
		slices.Reverse(below)
		rows := wantNode(s, store, n, below)
		if len(rows) > impl.MaxRows {
			return nil, nil, impl.EvalBig
		}
		sizes[k] = len(rows)
		waiting = append(waiting, rows)
	}
	return waiting[0], sizes, impl.EvalFine
}

func gives(t *testing.T, s []impl.Table, store [][][]int, p []impl.Node) ([][]int, int) {
	t.Helper()
	want, sizes, code := wantEval(s, store, p)
	got, gotCode := impl.EvalPlan(s, store, p)
	if gotCode != code || !sameLists(got, want) {
		t.Errorf("EvalPlan(%v, %v) = %v, %d, want %v, %d", store, p, got, gotCode, want, code)
	}
	if got := impl.SizesOf(s, store, p); !slices.Equal(got, sizes) {
		t.Errorf("SizesOf(%v, %v) = %v, want %v", store, p, got, sizes)
	}
	return got, gotCode
}

func givesRows(t *testing.T, s []impl.Table, store [][][]int, p []impl.Node, want ...[]int) {
	t.Helper()
	if got, code := gives(t, s, store, p); code != impl.EvalFine || !sameLists(got, want) {
		t.Errorf("EvalPlan(%v) = %v, %d, want %v", p, got, code, want)
	}
}

func givesBig(t *testing.T, s []impl.Table, store [][][]int, p []impl.Node) {
	t.Helper()
	if got, code := gives(t, s, store, p); code != impl.EvalBig || len(got) != 0 {
		t.Errorf("EvalPlan(%v) has %d rows and code %d, want EvalBig", p, len(got), code)
	}
}

func isBad(t *testing.T, what string, s []impl.Table, store [][][]int, p []impl.Node) {
	t.Helper()
	if got, code := impl.EvalPlan(s, store, p); code != impl.EvalBad || len(got) != 0 {
		t.Errorf("%s: EvalPlan has %d rows and code %d, want EvalBad", what, len(got), code)
	}
	if got := impl.SizesOf(s, store, p); len(got) != 0 {
		t.Errorf("%s: SizesOf = %v, want nothing", what, got)
	}
}

// Promise 4, of widths.
func TestRowsHaveThePlansWidth(t *testing.T) {
	s := evalSchema()
	plans := typedPlans()
	if len(plans) < 1000 {
		t.Fatalf("only %d plans are typed", len(plans))
	}
	given := 0
	for _, store := range evalStores() {
		for _, p := range plans {
			rows, code := gives(t, s, store, p)
			width := impl.WidthOf(s, p)
			for _, row := range rows {
				given++
				if len(row) != width {
					t.Errorf("%v is %d wide and gives %v", p, width, row)
				}
			}
			if code == impl.EvalBad {
				t.Errorf("%v is bad", p)
			}
		}
	}
	if given < 50000 {
		t.Errorf("only %d rows are given", given)
	}
}

// subOf asks whether a stands within b, in its order.
func subOf(a [][]int, b [][]int) bool {
	for _, row := range b {
		if len(a) > 0 && slices.Equal(a[0], row) {
			a = a[1:]
		}
	}
	return len(a) == 0
}

// Promise 4, of each Kind against what stands below it.
func TestNodesAgainstTheirChildren(t *testing.T) {
	s := evalSchema()
	for _, store := range evalStores() {
		for _, p := range typedPlans() {
			rows, code := impl.EvalPlan(s, store, p)
			if code != impl.EvalFine || len(p) == 1 {
				continue
			}
			child, code := impl.EvalPlan(s, store, impl.PartOf(p, 1))
			if code != impl.EvalFine {
				t.Fatalf("%v is fine, and what is below is not", p)
			}
			againstChild(t, s, store, p, rows, child)
		}
	}
}

func againstChild(t *testing.T, s []impl.Table, store [][][]int, p []impl.Node, rows [][]int, child [][]int) {
	t.Helper()
	switch n := p[0]; n.Kind {
	case impl.NodeFilter, impl.NodeLimit:
		if len(rows) > len(child) || !subOf(rows, child) {
			t.Errorf("%v gives more than its child: %v, %v", p, rows, child)
		}
		if n.Kind == impl.NodeLimit && len(rows) > n.Num {
			t.Errorf("%v gives %d rows", p, len(rows))
		}
	case impl.NodeSort:
		if len(rows) != len(child) || !impl.SameBag(rows, child) || !slices.IsSorted(impl.ColumnOf(rows, n.Col)) {
			t.Errorf("%v loses something: %v, %v", p, rows, child)
		}
		keepsOrder(t, rows, child, n.Col)
	case impl.NodeOnce:
		for _, row := range child {
			if impl.CountSame(rows, row) != 1 {
				t.Errorf("%v has %v not once: %v, %v", p, row, rows, child)
			}
		}
		if !subOf(rows, child) {
			t.Errorf("%v is not in order: %v, %v", p, rows, child)
		}
	case impl.NodeKeep:
		if len(rows) != len(child) {
			t.Errorf("%v has %d rows of %d", p, len(rows), len(child))
		}
	case impl.NodeBoth:
		right, _ := impl.EvalPlan(s, store, impl.PartOf(p, impl.EndOf(p, 1)))
		if len(rows) != len(child)+len(right) || !impl.SameRows(rows, slices.Concat(child, right)) {
			t.Errorf("%v does not add up: %v, %v, %v", p, rows, child, right)
		}
	}
}

// keepsOrder asks for each value whether the rows that have it stand as before.
func keepsOrder(t *testing.T, rows [][]int, before [][]int, col int) {
	t.Helper()
	for _, x := range append(impl.ColumnOf(before, col), none) {
		other := func(row []int) bool { return row[col] != x }
		if !sameLists(slices.DeleteFunc(slices.Clone(rows), other), slices.DeleteFunc(slices.Clone(before), other)) {
			t.Errorf("rows with %d at %d do not keep their order: %v, %v", x, col, rows, before)
		}
	}
}

func TestEvalOfEachKind(t *testing.T) {
	s := []impl.Table{table("t1", 2), table("t2", 1)}
	store := [][][]int{{{1, 5}, {2, none}, {1, 7}, {none, 5}, {1, 5}}, {{1}, {3}, {none}, {1}}}
	one, two := []impl.Node{scan("t1")}, []impl.Node{scan("t2")}
	givesRows(t, s, store, one, store[0]...)
	givesRows(t, s, store, two, store[1]...)
	givesRows(t, s, store, over(filter(0, impl.OpSame, 1), one), []int{1, 5}, []int{1, 7}, []int{1, 5})
	givesRows(t, s, store, over(filter(1, impl.OpLess, 7), one), []int{1, 5}, []int{none, 5}, []int{1, 5})
	givesRows(t, s, store, over(filter(1, impl.OpMore, 5), one), []int{1, 7})
	givesRows(t, s, store, over(filter(1, impl.OpNone, 0), one), []int{2, none})
	givesRows(t, s, store, over(filter(0, impl.OpSame, 9), one))
	givesRows(t, s, store, over(keep(1, 0, 1), one), []int{5, 1, 5}, []int{none, 2, none}, []int{7, 1, 7}, []int{5, none, 5}, []int{5, 1, 5})
	givesRows(t, s, store, over(joinOn(0, 0), one, two), []int{1, 5, 1}, []int{1, 5, 1}, []int{1, 7, 1}, []int{1, 7, 1}, []int{1, 5, 1}, []int{1, 5, 1})
	givesRows(t, s, store, over(joinOn(0, 0), two, one), []int{1, 1, 5}, []int{1, 1, 7}, []int{1, 1, 5}, []int{1, 1, 5}, []int{1, 1, 7}, []int{1, 1, 5})
	givesRows(t, s, store, over(joinOn(0, 1), two, one))
	givesRows(t, s, store, over(both(), two, over(keep(1), one)), []int{1}, []int{3}, []int{none}, []int{1}, []int{5}, []int{none}, []int{7}, []int{5}, []int{5})
	givesRows(t, s, store, over(sortBy(0), one), []int{none, 5}, []int{1, 5}, []int{1, 7}, []int{1, 5}, []int{2, none})
	givesRows(t, s, store, over(sortBy(1), one), []int{2, none}, []int{1, 5}, []int{none, 5}, []int{1, 5}, []int{1, 7})
	givesRows(t, s, store, over(once(), one), []int{1, 5}, []int{2, none}, []int{1, 7}, []int{none, 5})
	givesRows(t, s, store, over(once(), two), []int{1}, []int{3}, []int{none})
}

func TestLimitsAtTheNumberOfRows(t *testing.T) {
	s := []impl.Table{table("t1", 1)}
	for count := range 5 {
		var rows [][]int
		for i := range count {
			rows = append(rows, []int{9 - i})
		}
		for _, num := range []int{0, 1, 2, 3, 4, 5, 199, 200, 201, impl.MaxNum} {
			givesRows(t, s, [][][]int{rows}, over(limit(num), []impl.Node{scan("t1")}), rows[:min(num, count)]...)
		}
	}
}

// Each Op against values below, at and above its Num, numbers at both ends, and None.
func TestFiltersByEachOp(t *testing.T) {
	s := []impl.Table{table("t1", 2)}
	values := []int{none, -impl.MaxNum, -impl.MaxNum + 1, -1, 0, 1, impl.MaxNum - 1, impl.MaxNum, none}
	var rows [][]int
	for i, x := range values {
		rows = append(rows, []int{i, x})
	}
	for _, op := range []int{impl.OpSame, impl.OpLess, impl.OpMore} {
		for _, num := range values[1 : len(values)-1] {
			var want [][]int
			for _, row := range rows {
				if wantTaken(row[1], op, num) {
					want = append(want, row)
				}
			}
			givesRows(t, s, [][][]int{rows}, over(filter(1, op, num), []impl.Node{scan("t1")}), want...)
		}
	}
	givesRows(t, s, [][][]int{rows}, over(filter(1, impl.OpNone, 0), []impl.Node{scan("t1")}), []int{0, none}, []int{8, none})
	// Nothing is less than the least number, and nothing more than the greatest, a None neither.
	givesRows(t, s, [][][]int{rows}, over(filter(1, impl.OpLess, -impl.MaxNum), []impl.Node{scan("t1")}))
	givesRows(t, s, [][][]int{rows}, over(filter(1, impl.OpMore, impl.MaxNum), []impl.Node{scan("t1")}))
	givesRows(t, s, [][][]int{rows}, over(filter(0, impl.OpNone, 0), []impl.Node{scan("t1")}))
}

func TestNoneMeetsNothingInAJoin(t *testing.T) {
	s := []impl.Table{table("l", 2), table("r", 2)}
	lefts := [][]int{{1, none}, {2, 7}, {3, none}, {4, 8}}
	rights := [][]int{{none, 1}, {7, 2}, {none, 3}, {7, none}}
	joinedPlan := over(joinOn(1, 0), []impl.Node{scan("l")}, []impl.Node{scan("r")})
	givesRows(t, s, [][][]int{lefts, rights}, joinedPlan, []int{2, 7, 7, 2}, []int{2, 7, 7, none})
	givesRows(t, s, [][][]int{{{1, none}}, rights}, joinedPlan)
	givesRows(t, s, [][][]int{lefts, {{none, 1}}}, joinedPlan)
	givesRows(t, s, [][][]int{{{1, none}}, {{none, 1}}}, joinedPlan)
	givesRows(t, s, [][][]int{{{1, none}, {2, 7}}, {{none, 1}, {7, 2}}}, joinedPlan, []int{2, 7, 7, 2})
	givesRows(t, s, [][][]int{nil, rights}, joinedPlan)
	givesRows(t, s, [][][]int{lefts, nil}, joinedPlan)
	// At the other columns they are no matter.
	givesRows(t, s, [][][]int{{{none, 7}}, {{7, none}}}, joinedPlan, []int{none, 7, 7, none})
}

func TestSortsKeepTheOrderOfOneValue(t *testing.T) {
	s := []impl.Table{table("t1", 2)}
	var rows [][]int
	for i := range 40 {
		value := []int{3, none, 0, 3, -impl.MaxNum, impl.MaxNum, none}[i%7]
		rows = append(rows, []int{value, 40 - i})
	}
	got, code := gives(t, s, [][][]int{rows}, over(sortBy(0), []impl.Node{scan("t1")}))
	if code != impl.EvalFine || len(got) != 40 {
		t.Fatalf("%d rows, code %d", len(got), code)
	}
	keepsOrder(t, got, rows, 0)
	// Of 40 rows, 6 have the second of the seven values and 5 the last one.
	if got[0][0] != none || got[10][0] != none || got[11][0] != -impl.MaxNum || got[39][0] != impl.MaxNum {
		t.Errorf("not the least first: %v", got)
	}
	// The last sort counts, the one below it for those of one value.
	givesRows(t, s, [][][]int{{{2, 1}, {1, 2}, {2, 0}, {1, none}}}, []impl.Node{sortBy(0), sortBy(1), scan("t1")}, []int{1, none}, []int{1, 2}, []int{2, 0}, []int{2, 1})
	givesRows(t, s, [][][]int{{{2, 1}, {2, 1}, {2, 1}}}, []impl.Node{sortBy(1), scan("t1")}, []int{2, 1}, []int{2, 1}, []int{2, 1})
}

func TestOnceOfRowsThatAreTheSame(t *testing.T) {
	s := []impl.Table{table("t1", 2)}
	plan := []impl.Node{once(), scan("t1")}
	givesRows(t, s, [][][]int{nil}, plan)
	givesRows(t, s, [][][]int{slices.Repeat([][]int{{1, 2}}, 40)}, plan, []int{1, 2})
	givesRows(t, s, [][][]int{slices.Repeat([][]int{{none, none}}, 40)}, plan, []int{none, none})
	givesRows(t, s, [][][]int{{{1, none}, {none, 1}, {1, 1}, {1, none}, {none, none}, {none, 1}}}, plan, []int{1, none}, []int{none, 1}, []int{1, 1}, []int{none, none})
	// The first stays, and not the last; rows that are the same at one column are not the same.
	givesRows(t, s, [][][]int{{{2, 1}, {1, 1}, {2, 2}, {2, 1}, {1, 1}}}, plan, []int{2, 1}, []int{1, 1}, []int{2, 2})
	givesRows(t, s, [][][]int{{{1, 12}, {11, 2}, {-1, 1}, {1, -1}}}, plan, []int{1, 12}, []int{11, 2}, []int{-1, 1}, []int{1, -1})
	givesRows(t, s, [][][]int{{{2, 1}, {1, 1}}}, []impl.Node{once(), both(), scan("t1"), scan("t1")}, []int{2, 1}, []int{1, 1})
}

func TestStoreOk(t *testing.T) {
	s := evalSchema()
	for _, store := range evalStores() {
		if !impl.StoreOk(s, store) {
			t.Errorf("%v is a store", store)
		}
	}
	for count := range 60 {
		rows := slices.Repeat([][]int{{1, none}}, count)
		want := count <= 40
		if impl.StoreOk(s, [][][]int{nil, rows, nil}) != want || impl.StoreOk([]impl.Table{table("t", 2)}, [][][]int{rows}) != want {
			t.Errorf("%d rows are a store: %v", count, !want)
		}
	}
	for length := range 10 {
		for place := range 3 {
			for _, count := range []int{1, 2, 40} {
				rows := slices.Repeat([][]int{{1, 2}}, count)
				rows[place%count] = make([]int, length)
				if impl.StoreOk(s, [][][]int{nil, rows, nil}) != (length == 2) {
					t.Errorf("a row of %d values among %d", length, count)
				}
			}
		}
	}
	for tables := range 6 {
		if impl.StoreOk(s, make([][][]int, tables)) != (tables == 3) {
			t.Errorf("%d lists of rows for 3 Tables", tables)
		}
	}
	if !impl.StoreOk(nil, nil) || !impl.StoreOk([]impl.Table{}, [][][]int{}) || impl.StoreOk(nil, [][][]int{nil}) {
		t.Error("a schema without tables has the store without rows alone")
	}
	if !impl.StoreOk(manyTables(8), make([][][]int, 8)) || impl.StoreOk(manyTables(9), make([][][]int, 9)) {
		t.Error("8 tables make a schema, 9 do not")
	}
}

func TestValuesOfAStore(t *testing.T) {
	s := evalSchema()
	for x, want := range map[int]bool{
		0: true, 1: true, -1: true, impl.MaxNum: true, impl.MaxNum - 1: true, -impl.MaxNum: true, none: true,
		impl.MaxNum + 1: false, -impl.MaxNum - 1: false, none + 1: false, none - 1: false, -none: false, math.MaxInt: false, math.MinInt: false,
	} {
		for place := range 3 {
			row := []int{1, none, 2}
			row[place] = x
			store := [][][]int{nil, {{1, 2}}, {{1, 2, 3}, row}}
			if impl.StoreOk(s, store) != want {
				t.Errorf("%d at %d: a store is %v", x, place, !want)
			}
			if !want {
				isBad(t, fmt.Sprint("the value ", x), s, store, []impl.Node{scan("b")})
				isBad(t, fmt.Sprint("the value ", x), s, store, []impl.Node{scan("c")})
			} else {
				givesRows(t, s, store, []impl.Node{scan("c")}, store[2]...)
			}
		}
	}
}

// noStores are no stores of evalSchema.
func noStores() map[string][][][]int {
	return map[string][][][]int{
		"nothing":                    nil,
		"two lists of three":         {{{1}}, {{1, 2}}},
		"four lists of three":        {{{1}}, {{1, 2}}, {{1, 2, 3}}, nil},
		"41 rows":                    {nil, slices.Repeat([][]int{{1, 2}}, 41), nil},
		"41 rows of the last table":  {nil, nil, slices.Repeat([][]int{{1, 2, 3}}, 41)},
		"very many rows":             {slices.Repeat([][]int{{1}}, 5000), nil, nil},
		"a row that is too short":    {nil, {{1, 2}, {1}}, nil},
		"a row that is too long":     {nil, {{1, 2, 3}, {1, 2}}, nil},
		"an empty row":               {{{}}, nil, nil},
		"a row that is nil":          {{nil}, nil, nil},
		"a very long row":            {{make([]int, 5000)}, nil, nil},
		"the order of another":       {{{1, 2}}, {{1}}, {{1, 2, 3}}},
		"a number that is too great": {{{impl.MaxNum + 1}}, nil, nil},
		"a number that is too small": {nil, nil, {{1, 2, -impl.MaxNum - 1}}},
		"nearly a None":              {nil, {{none + 1, 2}}, nil},
	}
}

func TestNoStore(t *testing.T) {
	for name, store := range noStores() {
		if impl.StoreOk(evalSchema(), store) {
			t.Errorf("%s: a store", name)
		}
		for _, p := range [][]impl.Node{{scan("a")}, {scan("b")}, {limit(0), scan("c")}, {joinOn(0, 0), scan("a"), scan("b")}} {
			isBad(t, name, evalSchema(), store, p)
		}
	}
}

func TestStoreOfNoSchema(t *testing.T) {
	for name, s := range noSchemas() {
		store := make([][][]int, len(s))
		if impl.StoreOk(s, store) || impl.StoreOk(s, nil) {
			t.Errorf("%s: it has a store", name)
		}
		isBad(t, name, s, store, []impl.Node{scan("t1")})
		isBad(t, name, s, nil, []impl.Node{scan("t1")})
		if len(s) == 0 || len(s) > 20 {
			continue
		}
		for i, x := range s {
			if 0 <= x.Width && x.Width < 20 {
				store[i] = [][]int{make([]int, x.Width)}
			}
		}
		if impl.StoreOk(s, store) {
			t.Errorf("%s: it has a store", name)
		}
		isBad(t, name, s, store, []impl.Node{scan(s[0].Name)})
	}
}

func TestEvalOfNoPlan(t *testing.T) {
	s, store := []impl.Table{table("t1", 2), table("t2", 2)}, [][][]int{{{1, 2}}, {{1, 2}}}
	for name, p := range noPlans() {
		isBad(t, name, s, store, p)
	}
	for name, p := range map[string][]impl.Node{
		"no such table":              {scan("t3")},
		"no such table below":        {limit(0), scan("t3")},
		"a filter's column":          {filter(2, impl.OpSame, 1), scan("t1")},
		"a None's column":            {filter(2, impl.OpNone, 0), scan("t1")},
		"a sort's column":            {sortBy(2), scan("t1")},
		"a keep's column":            {keep(0, 2), scan("t1")},
		"a join's left column":       {joinOn(2, 0), scan("t1"), scan("t2")},
		"a join's right column":      {joinOn(0, 2), scan("t1"), scan("t2")},
		"a both of two widths":       {both(), keep(0), scan("t1"), scan("t2")},
		"a bad column below a limit": {limit(0), sortBy(63), scan("t1")},
	} {
		isBad(t, name, s, store, p)
		isBad(t, name+", without rows", s, make([][][]int, 2), p)
	}
	// 65 columns, though the keep above them has few.
	wideStore := make([][][]int, impl.MaxCols)
	isBad(t, "65 columns", sizedTables(), wideStore, over(keep(0), wide(65)))
	givesRows(t, sizedTables(), wideStore, over(keep(0), wide(64)))
	for _, p := range ordinaryPlans() {
		isBad(t, "no tables", nil, nil, p)
	}
}

func TestEvalOfSlots(t *testing.T) {
	s, store := evalSchema(), madeStore(1, 4)
	for _, n := range []impl.Node{asSlot(limit(0)), asSlot(limit(39)), asSlot(filter(0, impl.OpSame, 0)), asSlot(filter(0, impl.OpLess, 1)), asSlot(filter(0, impl.OpMore, 39))} {
		for name, p := range map[string][]impl.Node{
			"first":          {n, scan("b")},
			"last":           {limit(0), once(), n, scan("b")},
			"on the left":    {both(), n, scan("b"), scan("b")},
			"on the right":   {joinOn(0, 0), scan("a"), n, scan("b")},
			"beside no slot": {limit(1), n, scan("b")},
			"over no rows":   {n, limit(0), scan("b")},
			"two":            {n, n, scan("b")},
		} {
			if !impl.PlanOk(p) {
				t.Fatalf("%v is a plan", p)
			}
			isBad(t, name, s, store, p)
		}
	}
	// It is bad ahead of being too big.
	isBad(t, "a slot over too many rows", s, madeStore(1, 40), over(asSlot(limit(0)), bigBoth()))
	isBad(t, "too many rows beside a slot", s, madeStore(1, 40), over(both(), bigBoth(), over(asSlot(limit(0)), []impl.Node{scan("a")})))
}

// bigBoth gives six times as many rows as the table a has.
func bigBoth() []impl.Node {
	a := []impl.Node{scan("a")}
	return over(both(), over(both(), over(both(), a, a), over(both(), a, a)), over(both(), a, a))
}

// nearlyBig has a store of the tables a, b, c, l and r, and plans that give count rows, of 199 to 201, by a both and by a join.
func nearlyBig(count int) ([]impl.Table, [][][]int, [][]impl.Node) {
	s := []impl.Table{table("a", 1), table("b", 1), table("c", 1), table("l", 1), table("r", 1)}
	inB := min(40, count-160)
	// 20 rows with 10 are 200; one of the 20 that meets 9 alone makes it 199, and one more that meets one 201.
	lefts, rights := slices.Repeat([][]int{{1}}, 20), slices.Repeat([][]int{{1}}, 10)
	if count == 199 {
		lefts[19] = []int{2}
		rights = append(rights, slices.Repeat([][]int{{2}}, 9)...)
	} else if count == 201 {
		lefts, rights = append(lefts, []int{3}), append(rights, []int{3})
	}
	store := [][][]int{slices.Repeat([][]int{{5}}, 40), slices.Repeat([][]int{{6}}, inB), slices.Repeat([][]int{{7}}, count-160-inB), lefts, rights}
	a := []impl.Node{scan("a")}
	byBoth := over(both(), over(both(), over(both(), a, a), over(both(), a, a)), over(both(), []impl.Node{scan("b")}, []impl.Node{scan("c")}))
	return s, store, [][]impl.Node{byBoth, {joinOn(0, 0), scan("l"), scan("r")}}
}

func TestRowsToTheLimit(t *testing.T) {
	for _, count := range []int{199, 200, 201} {
		s, store, plans := nearlyBig(count)
		if !impl.StoreOk(s, store) {
			t.Fatalf("%d: no store", count)
		}
		for _, p := range plans {
			above := map[string][]impl.Node{
				"itself": p, "limit 0": over(limit(0), p), "limit 5": over(limit(5), p), "limit 200": over(limit(200), p), "none": over(filter(0, impl.OpNone, 0), p),
				"same": over(filter(0, impl.OpSame, 4), p), "once": over(once(), p), "keep": over(keep(0), p), "sort": over(sortBy(0), p), "two above": over(limit(0), over(once(), p)),
				"left of a join": over(joinOn(0, 0), p, over(limit(0), []impl.Node{scan("a")})), "right of a join": over(joinOn(0, 0), over(limit(0), []impl.Node{scan("a")}), p),
				"left of a both": over(both(), over(limit(0), over(keep(0), p)), []impl.Node{scan("a")}), "right of a both": over(both(), []impl.Node{scan("a")}, over(limit(0), over(keep(0), p))),
			}
			for name, q := range above {
				_, code := gives(t, s, store, q)
				if want := map[bool]int{true: impl.EvalFine, false: impl.EvalBig}[count <= 200]; code != want {
					t.Errorf("%d rows, %s: code %d, want %d", count, name, code, want)
				}
				if count > 200 {
					givesBig(t, s, store, q)
				}
			}
			if got, _ := impl.EvalPlan(s, store, p); count <= 200 && len(got) != count {
				t.Errorf("%d rows, want %d", len(got), count)
			}
		}
		// A both over 200 rows with one more is too big, with none more it is not.
		more := over(both(), over(keep(0), plans[1]), over(limit(1), []impl.Node{scan("a")}))
		if _, code := gives(t, s, store, more); (code == impl.EvalBig) != (count >= 200) {
			t.Errorf("one more than %d rows: code %d", count, code)
		}
		same := over(both(), over(keep(0), plans[1]), over(limit(0), []impl.Node{scan("a")}))
		if _, code := gives(t, s, store, same); (code == impl.EvalBig) != (count > 200) {
			t.Errorf("no more than %d rows: code %d", count, code)
		}
	}
}

// As many nodes, as deep and as many rows below as may be: the answer comes soon.
func TestEvalOfTheGreatestPlans(t *testing.T) {
	s := []impl.Table{table("t2", 1)}
	full := [][][]int{slices.Repeat([][]int{{1}}, 40)}
	givesBig(t, s, full, bushyOf(impl.MaxNodes))
	givesBig(t, s, full, over(joinOn(0, 0), []impl.Node{scan("t2")}, []impl.Node{scan("t2")}))
	few := [][][]int{slices.Repeat([][]int{{1}}, 10)}
	if got, code := gives(t, s, few, bushyOf(39)); code != impl.EvalFine || len(got) != 200 {
		t.Errorf("20 tables of 10 rows: %d rows, code %d", len(got), code)
	}
	deep := []impl.Node{scan("w6")}
	for range impl.MaxDepth - 1 {
		deep = over(joinOn(0, 5), deep, []impl.Node{scan("w6")})
	}
	store := make([][][]int, impl.MaxCols)
	store[5] = [][]int{{1, 2, 3, 4, 5, 1}, {none, 2, 3, 4, 5, none}}
	got, code := gives(t, sizedTables(), store, deep)
	if code != impl.EvalFine || len(got) != 1 || len(got[0]) != 60 {
		t.Errorf("a join of 10 tables: %v, %d", got, code)
	}
	// 64 columns, with a filter, a sort and a keep at the last.
	store[5] = [][]int{{1, 2, 3, 4, 5, 6}}
	store[3] = [][]int{{1, 0, 0, 9}, {1, 0, 0, 7}, {1, 0, 0, none}, {1, 0, 0, 8}}
	givesRows(t, sizedTables(), store, over(keep(63, 59), over(limit(1), over(sortBy(63), over(filter(63, impl.OpMore, 7), wide(64))))), []int{8, 6})
}

func TestSizesOf(t *testing.T) {
	s := evalSchema()
	for _, store := range evalStores() {
		for _, p := range typedPlans() {
			sizes := impl.SizesOf(s, store, p)
			rows, code := impl.EvalPlan(s, store, p)
			if code != impl.EvalFine {
				if len(sizes) != 0 {
					t.Errorf("SizesOf(%v) = %v, and its code is %d", p, sizes, code)
				}
				continue
			}
			if len(sizes) != len(p) || sizes[0] != len(rows) {
				t.Fatalf("SizesOf(%v) = %v", p, sizes)
			}
			for k, size := range sizes {
				if part, code := impl.EvalPlan(s, store, impl.PartOf(p, k)); code != impl.EvalFine || len(part) != size {
					t.Errorf("SizesOf(%v) has %d at %d, the part %d rows", p, size, k, len(part))
				}
			}
		}
	}
	p := []impl.Node{limit(3), joinOn(0, 0), filter(1, impl.OpMore, 5), scan("b"), once(), scan("a")}
	store := [][][]int{{{1}, {1}, {2}}, {{1, 5}, {2, none}, {1, 7}, {2, 9}}, nil}
	if got := impl.SizesOf(s, store, p); !slices.Equal(got, []int{2, 2, 2, 4, 2, 3}) {
		t.Errorf("SizesOf = %v", got)
	}
	if got := impl.SizesOf(s, make([][][]int, 3), p); !slices.Equal(got, make([]int, 6)) {
		t.Errorf("SizesOf without rows = %v", got)
	}
}

func spoilLists(rows [][]int) {
	for _, row := range rows {
		for i := range row[:cap(row)] {
			row[:cap(row)][i] = 99
		}
	}
	for i := range rows {
		rows[i] = []int{98}
	}
	_ = append(rows, []int{97})
}

// room is a copy of a store in which each list has room behind it, so that what is written there is seen.
func room(store [][][]int) [][][]int {
	out := make([][][]int, 0, len(store)+4)
	for _, rows := range store {
		with := make([][]int, 0, len(rows)+4)
		for _, row := range rows {
			with = append(with, append(make([]int, 0, len(row)+70), row...))
		}
		out = append(out, with)
	}
	return out
}

func sameStore(a [][][]int, b [][][]int) bool {
	return slices.EqualFunc(a, b, sameLists)
}

func nothingBehind(store [][][]int) bool {
	for _, rows := range store {
		for _, row := range rows {
			if slices.ContainsFunc(row[len(row):cap(row)], func(x int) bool { return x != 0 }) {
				return false
			}
		}
		if slices.ContainsFunc(rows[len(rows):cap(rows)], func(row []int) bool { return row != nil }) {
			return false
		}
	}
	return true
}

func TestEvalAnswersAreNewMemory(t *testing.T) {
	s := evalSchema()
	want := madeStore(7, 6)
	for _, p := range typedPlans() {
		if len(p) > 3 {
			continue
		}
		store := room(want)
		before := deepCopy(p)
		rows, _ := impl.EvalPlan(s, store, p)
		again := copyLists(rows)
		// Each row is spoilt alone: another that shares its memory would not stay.
		for i, row := range rows {
			for j := range row[:cap(row)] {
				row[:cap(row)][j] = 99
			}
			if !sameLists(rows[i+1:], again[i+1:]) {
				t.Errorf("%v: two rows of one answer share memory", p)
			}
		}
		spoilLists(rows)
		sizes := impl.SizesOf(s, store, p)
		for i := range sizes {
			sizes[i] = 99
		}
		if !sameStore(store, want) || !nothingBehind(store) || !sameNodes(p, before) {
			t.Errorf("%v: an answer shares memory with an argument, or something is written into one", p)
		}
		if got, _ := impl.EvalPlan(s, store, p); !sameLists(got, again) {
			t.Errorf("%v: another answer at another call", p)
		}
	}
	if !slices.Equal(s, evalSchema()) {
		t.Error("something is written into a schema")
	}
}
