package tests

import (
	"math"
	"regexp"
	"slices"
	"strconv"
	"strings"
	"testing"

	"loop.example/g00844/impl"
)

func table(name string, width int) impl.Table { return impl.Table{Name: name, Width: width} }

// manyTables are a0, a1 and so on, by Name up to ten of them; their Widths go round.
func manyTables(count int) []impl.Table {
	var s []impl.Table
	for i := range count {
		s = append(s, table("a"+strconv.Itoa(i), i%impl.MaxCols+1))
	}
	return s
}

// sizedTables are w1 to w6, each as wide as its Name says.
func sizedTables() []impl.Table {
	var s []impl.Table
	for width := 1; width <= impl.MaxCols; width++ {
		s = append(s, table("w"+strconv.Itoa(width), width))
	}
	return s
}

func ordinarySchemas() [][]impl.Table {
	return [][]impl.Table{
		nil,
		{table("t1", 2)},
		{table("a", 1)},
		{table("z9", impl.MaxCols)},
		{table("abcdefghijkl", 3)},
		{table("t1", 2), table("t2", 1)},
		{table("t1", 2), table("t2", 3), table("t3", 1)},
		// A beginning is less, and digits are less than letters.
		{table("a", 4), table("a0", 1), table("a00", 6), table("a1", 2), table("a10", 2), table("a2", 5), table("aa", 3), table("b", 1)},
		{table("abcdefghijkk", 1), table("abcdefghijkl", 1), table("abcdefghijl", 1)},
		sizedTables(),
		manyTables(7), manyTables(impl.MaxTables),
	}
}

func noSchemas() map[string][]impl.Table {
	return map[string][]impl.Table{
		"9 tables":                   manyTables(impl.MaxTables + 1),
		"10 tables":                  manyTables(impl.MaxTables + 2),
		"very many tables":           make([]impl.Table, 5000),
		"a Width of 0":               {table("t1", 0)},
		"a Width of 7":               {table("t1", impl.MaxCols+1)},
		"a Width below 0":            {table("t1", -1)},
		"the greatest Width":         {table("t1", math.MaxInt)},
		"the least Width":            {table("t1", math.MinInt)},
		"the last Width is 7":        {table("t1", 1), table("t2", 7)},
		"the first Width is 0":       {table("t1", 0), table("t2", 1)},
		"the zero value":             {{}},
		"two of one Name":            {table("t1", 1), table("t1", 1)},
		"two of one Name, not alike": {table("t1", 1), table("t1", 2)},
		"two of one Name behind":     {table("a", 1), table("t1", 1), table("t1", 1)},
		"two of one Name apart":      {table("t1", 1), table("t2", 1), table("t1", 1)},
		"eight of one Name":          slices.Repeat([]impl.Table{table("t1", 1)}, 8),
		"not by Name":                {table("t2", 1), table("t1", 2)},
		"the last is not by Name":    {table("b", 1), table("c", 1), table("a", 1)},
		"a beginning behind":         {table("t10", 1), table("t1", 1)},
		"digits behind letters":      {table("ta", 1), table("t1", 1)},
		"by number":                  {table("t2", 1), table("t10", 1)},
		"by Width":                   {table("b", 1), table("a", 2)},
		"an empty Name":              {table("", 1)},
		"a Name of 13 letters":       {table("abcdefghijklm", 1)},
		"a very long Name":           {table(strings.Repeat("a", 300), 1)},
		"a digit ahead":              {table("1t", 1)},
		"a Name of a digit":          {table("1", 1)},
		"a great letter":             {table("T1", 1)},
		"a blank in a Name":          {table("t 1", 1)},
		"a stroke in a Name":         {table("t/1", 1)},
		"a Name that is no ASCII":    {table("tä", 1)},
		"a byte 0 in a Name":         {table("t\x00", 1)},
		"the second Name is no word": {table("t1", 1), table("t_", 1)},
	}
}

// wantWidth reads a plan from its end, with the widths that wait for a node above them, the next one last.
func wantWidth(s []impl.Table, p []impl.Node) int {
	var waiting []int
	for _, n := range slices.Backward(p) {
		below := slices.Clone(waiting[len(waiting)-wantArity(n.Kind):])
		waiting = waiting[:len(waiting)-len(below)]
		slices.Reverse(below)
		width := 0
		var lefts, rights []int
		switch n.Kind {
		case impl.NodeScan:
			for _, x := range s {
				if x.Name == n.Name {
					width = x.Width
				}
			}
		case impl.NodeKeep:
			width, lefts = len(n.Cols), n.Cols
		case impl.NodeJoin:
			width, lefts, rights = below[0]+below[1], []int{n.Col}, []int{n.Num}
		case impl.NodeFilter, impl.NodeSort:
			width, lefts = below[0], []int{n.Col}
		case impl.NodeBoth:
			if below[0] == below[1] {
				width = below[0]
			}
		default:
			width = below[0]
		}
		for _, col := range lefts {
			if col >= below[0] {
				return -1
			}
		}
		for _, col := range rights {
			if col >= below[1] {
				return -1
			}
		}
		if width == 0 || width > 64 {
			return -1
		}
		waiting = append(waiting, width)
	}
	return waiting[0]
}

// everyPlan makes all plans of up to that many of these nodes.
func everyPlan(nodes []impl.Node, most int) [][]impl.Node {
	var plans [][]impl.Node
	lists := [][]impl.Node{{}}
	for from := 0; from < len(lists); from++ {
		for _, n := range nodes {
			p := append(slices.Clone(lists[from]), n)
			if end := wantEnd(p, 0); end == len(p) {
				plans = append(plans, p)
			} else if len(p) < most {
				lists = append(lists, p)
			}
		}
	}
	return plans
}

// joined is a join of scans with these widths, as flat as they allow.
func joined(widths ...int) []impl.Node {
	if len(widths) == 1 {
		return []impl.Node{scan("w" + strconv.Itoa(widths[0]))}
	}
	half := len(widths) / 2
	return slices.Concat([]impl.Node{joinOn(0, 0)}, joined(widths[:half]...), joined(widths[half:]...))
}

// wide is a plan of that width, from 1 on.
func wide(width int) []impl.Node {
	widths := slices.Repeat([]int{6}, (width-1)/6)
	return joined(append(widths, width-len(widths)*6)...)
}

func over(n impl.Node, parts ...[]impl.Node) []impl.Node {
	return slices.Concat([]impl.Node{n}, slices.Concat(parts...))
}

func hasWidth(t *testing.T, s []impl.Table, p []impl.Node, want int) {
	t.Helper()
	if got := impl.WidthOf(s, p); got != want {
		t.Errorf("WidthOf(%v, %v) = %d, want %d", s, p, got, want)
	}
	if got := impl.WidthAt(s, p, 0); got != want {
		t.Errorf("WidthAt(%v, %v, 0) = %d, want %d", s, p, got, want)
	}
	if got := impl.TypedOk(s, p); got != (want != -1) {
		t.Errorf("TypedOk(%v, %v) is %v", s, p, got)
	}
}

func TestSchemaOk(t *testing.T) {
	for _, s := range ordinarySchemas() {
		if !impl.SchemaOk(s) {
			t.Errorf("%v is a schema", s)
		}
	}
	if !impl.SchemaOk([]impl.Table{}) {
		t.Error("an empty list and nil are the same")
	}
	for count := range 11 {
		if got := impl.SchemaOk(manyTables(count)); got != (count <= impl.MaxTables) {
			t.Errorf("%d tables: %v", count, got)
		}
	}
	for width := -3; width < 12; width++ {
		if got := impl.SchemaOk([]impl.Table{table("t1", width)}); got != (1 <= width && width <= impl.MaxCols) {
			t.Errorf("a Width of %d: %v", width, got)
		}
	}
	for length := range 20 {
		if got := impl.SchemaOk([]impl.Table{table(strings.Repeat("a", length), 1)}); got != (1 <= length && length <= impl.MaxWord) {
			t.Errorf("a Name of %d letters: %v", length, got)
		}
	}
	for name, s := range noSchemas() {
		if impl.SchemaOk(s) {
			t.Errorf("%s: no schema", name)
		}
	}
}

// Every function of the chapter has its answer to what is no schema.
func TestNoSchema(t *testing.T) {
	for name, s := range noSchemas() {
		p := []impl.Node{once(), scan("t1")}
		if impl.WidthOf(s, p) != -1 || impl.WidthAt(s, p, 0) != -1 || impl.WidthAt(s, p, 1) != -1 || impl.WidthAt(s, p, 2) != -1 || impl.TypedOk(s, p) {
			t.Errorf("%s: a plan has a width", name)
		}
		for _, x := range append(slices.Clone(s), table("t1", 1), table("zz", 1), table("", 0)) {
			if got, ok := impl.FindTable(s, x.Name); ok || got != (impl.Table{}) {
				t.Errorf("%s: FindTable of %q = %v, %v", name, x.Name, got, ok)
			}
			if len(s) > 100 {
				break
			}
			// A Table that would make a schema of it is not put either.
			for _, put := range []impl.Table{x, table(x.Name, 1), table(x.Name, 6)} {
				if got, ok := impl.PutTable(s, put); ok || !slices.Equal(got, s) {
					t.Errorf("%s: PutTable of %v = %v, %v", name, put, got, ok)
				}
			}
		}
		if got := impl.SchemaText(s); got != "" {
			t.Errorf("%s: SchemaText is %q", name, got)
		}
	}
	long := make([]impl.Table, 5000)
	if got, ok := impl.PutTable(long, table("t1", 1)); ok || !slices.Equal(got, long) {
		t.Error("a very long list is put into")
	}
}

func TestWidthOfEachKind(t *testing.T) {
	s := []impl.Table{table("t1", 2), table("t2", 5)}
	one, two := []impl.Node{scan("t1")}, []impl.Node{scan("t2")}
	for _, c := range []struct {
		p    []impl.Node
		want int
	}{
		{one, 2}, {two, 5}, {[]impl.Node{scan("t3")}, -1}, {[]impl.Node{scan("t")}, -1}, {[]impl.Node{scan("t11")}, -1},
		{over(once(), []impl.Node{scan("t3")}), -1}, {over(keep(0), []impl.Node{scan("t3")}), -1}, {over(joinOn(0, 0), one, []impl.Node{scan("t3")}), -1}, {over(joinOn(0, 0), []impl.Node{scan("t3")}, one), -1}, {over(both(), []impl.Node{scan("t3")}, []impl.Node{scan("t3")}), -1},
		{over(filter(0, impl.OpSame, 63), one), 2}, {over(filter(1, impl.OpLess, 0), one), 2}, {over(filter(2, impl.OpMore, 0), one), -1}, {over(filter(1, impl.OpNone, 0), one), 2}, {over(filter(2, impl.OpNone, 0), one), -1}, {over(filter(63, impl.OpSame, 0), two), -1},
		// The Num of a filter or of a limit is no column.
		{over(filter(0, impl.OpSame, impl.MaxNum), one), 2}, {over(filter(0, impl.OpSame, -1), one), 2}, {over(asSlot(filter(1, impl.OpSame, 39)), one), 2}, {over(asSlot(filter(2, impl.OpSame, 0)), one), -1},
		{over(limit(0), one), 2}, {over(limit(impl.MaxNum), two), 5}, {over(asSlot(limit(39)), one), 2}, {over(once(), two), 5},
		{over(sortBy(1), one), 2}, {over(sortBy(2), one), -1}, {over(sortBy(4), two), 5}, {over(sortBy(5), two), -1}, {over(sortBy(63), two), -1},
		{over(keep(1), one), 1}, {over(keep(2), one), -1}, {over(keep(1, 0, 1, 1, 0, 0), one), 6}, {over(keep(0, 0, 0, 0, 0, 2), one), -1}, {over(keep(2, 0, 0), one), -1}, {over(keep(0, 2, 0), one), -1}, {over(keep(4, 3), two), 2}, {over(keep(4, 5), two), -1},
		{over(joinOn(0, 0), one, two), 7}, {over(joinOn(1, 4), one, two), 7}, {over(joinOn(4, 1), two, one), 7}, {over(joinOn(0, 0), one, one), 4},
		// Each column of a join is held against its own child, and not against the other, nor against both.
		{over(joinOn(2, 0), one, two), -1}, {over(joinOn(0, 5), one, two), -1}, {over(joinOn(1, 5), one, two), -1}, {over(joinOn(5, 0), two, one), -1}, {over(joinOn(0, 2), two, one), -1}, {over(joinOn(4, 2), two, one), -1}, {over(joinOn(6, 0), one, two), -1}, {over(joinOn(0, 6), one, two), -1},
		{over(both(), one, one), 2}, {over(both(), two, two), 5}, {over(both(), one, two), -1}, {over(both(), two, one), -1}, {over(both(), one, over(keep(0, 1), two)), 2}, {over(both(), over(keep(0, 0, 0, 0, 0), one), two), 5}, {over(both(), over(keep(0), two), one), -1},
		// A column is held against the width just below it.
		{over(filter(2, impl.OpSame, 0), over(keep(0, 1, 0), one)), 3}, {over(filter(1, impl.OpSame, 0), over(keep(0), two)), -1}, {over(sortBy(6), over(joinOn(0, 0), one, two)), 7}, {over(sortBy(7), over(joinOn(0, 0), one, two)), -1}, {over(keep(0), over(keep(1), over(keep(4), two))), -1}, {over(keep(0), over(keep(0), over(keep(4), two))), 1},
		// What is wrong below is not mended above.
		{over(keep(0), over(filter(2, impl.OpSame, 0), one)), -1}, {over(keep(0), over(both(), one, two)), -1}, {over(once(), over(sortBy(2), one)), -1}, {over(joinOn(0, 0), one, over(keep(5), two)), -1}, {over(joinOn(0, 0), over(keep(5), two), one), -1}, {over(both(), over(sortBy(2), one), over(sortBy(2), one)), -1},
	} {
		hasWidth(t, s, c.p, c.want)
		if want := wantWidth(s, c.p); want != c.want {
			t.Errorf("wantWidth(%v) = %d, want %d", c.p, want, c.want)
		}
	}
}

func TestColumnsAtTheWidthOfTheirChild(t *testing.T) {
	s := sizedTables()
	for width := 1; width <= 64; width++ {
		child := wide(width)
		hasWidth(t, s, child, width)
		for col := range 64 {
			there := func(want int) int {
				if col < width {
					return want
				}
				return -1
			}
			hasWidth(t, s, over(filter(col, impl.OpSame, 0), child), there(width))
			hasWidth(t, s, over(filter(col, impl.OpNone, 0), child), there(width))
			hasWidth(t, s, over(sortBy(col), child), there(width))
			hasWidth(t, s, over(keep(0, col), child), there(2))
			hasWidth(t, s, over(keep(col, 0, 0, 0, 0, 0), child), there(6))
			if width <= 58 {
				hasWidth(t, s, over(joinOn(col, 5), child, wide(6)), there(width+6))
				hasWidth(t, s, over(joinOn(5, col), wide(6), child), there(width+6))
			}
		}
	}
}

func TestWidthsAbove64(t *testing.T) {
	s := sizedTables()
	upTo64 := func(width int, want int) int {
		if width > 64 {
			return -1
		}
		return want
	}
	for width := 1; width <= 110; width++ {
		p := wide(width)
		for _, x := range [][]impl.Node{p, over(keep(0, 0), over(once(), p)), over(joinOn(0, 0), joined(1), p)} {
			if !impl.PlanOk(x) {
				t.Fatalf("%v is a plan", x)
			}
		}
		hasWidth(t, s, p, upTo64(width, width))
		hasWidth(t, s, over(once(), p), upTo64(width, width))
		hasWidth(t, s, over(joinOn(0, 0), joined(1), p), upTo64(width+1, width+1))
		hasWidth(t, s, over(joinOn(0, 0), p, joined(1)), upTo64(width+1, width+1))
		// A keep above does not make it a width that may be.
		hasWidth(t, s, over(keep(0, 0), over(once(), p)), upTo64(width, 2))
	}
	deep := joined(6)
	for range impl.MaxDepth - 1 {
		deep = over(joinOn(0, 5), deep, joined(6))
	}
	hasWidth(t, s, deep, 60)
	hasWidth(t, s, over(joinOn(63, 0), wide(64), joined(1)), -1)
	hasWidth(t, s, over(joinOn(59, 3), wide(60), joined(4)), 64)
	hasWidth(t, s, over(joinOn(59, 3), wide(60), joined(5)), -1)
	hasWidth(t, s, over(joinOn(3, 59), joined(4), wide(60)), 64)
	hasWidth(t, s, over(joinOn(3, 59), joined(5), wide(60)), -1)
	// Each is at most 64 wide, both together are not.
	hasWidth(t, s, over(joinOn(31, 31), wide(32), wide(32)), 64)
	hasWidth(t, s, over(joinOn(31, 31), wide(32), wide(33)), -1)
	hasWidth(t, s, over(joinOn(0, 0), wide(59), wide(59)), -1)
}

// Plans of up to four nodes, with tables of three widths and one that is not there.
func TestWidthOfEveryShortPlan(t *testing.T) {
	s := []impl.Table{table("a", 1), table("b", 2), table("c", 6)}
	nodes := []impl.Node{scan("a"), scan("b"), scan("c"), scan("d"), filter(0, impl.OpSame, 9), filter(1, impl.OpNone, 0), keep(0), keep(1, 5), joinOn(0, 1), joinOn(5, 0), both(), sortBy(2), limit(9), once()}
	typed := 0
	for _, p := range everyPlan(nodes, 4) {
		want := wantWidth(s, p)
		if want != -1 {
			typed++
		}
		hasWidth(t, s, p, want)
		hasWidth(t, nil, p, -1)
		for k := range p {
			if got := impl.WidthAt(s, p, k); got != wantWidth(s, p[k:wantEnd(p, k)]) {
				t.Errorf("WidthAt(%v, %d) = %d", p, k, got)
			}
		}
	}
	if typed < 500 {
		t.Errorf("only %d plans have a width", typed)
	}
}

// Promise 3, of widths.
func TestPartOfTheSameWidthKeepsTheWidth(t *testing.T) {
	s := []impl.Table{table("b", 2), table("t1", 3), table("t2", 1), table("t3", 6)}
	nodes := []impl.Node{scan("b"), scan("t1"), scan("t2"), scan("t3"), filter(1, impl.OpLess, 0), keep(0), keep(2, 1, 0), joinOn(0, 0), both(), sortBy(0), asSlot(limit(3))}
	parts := everyPlan(nodes, 3)
	whole := []impl.Node{limit(3), joinOn(2, 1), both(), scan("t1"), filter(0, impl.OpNone, 0), keep(0, 1, 1), scan("b"), asSlot(limit(0)), joinOn(0, 0), scan("t3"), scan("t2")}
	plans := [][]impl.Node{whole, {once(), sortBy(0), keep(1, 0, 1), scan("t3")}, {both(), both(), scan("b"), scan("b"), both(), keep(5, 0), scan("t3"), scan("b")}, over(keep(0, 1, 2, 3, 4, 5), over(once(), over(joinOn(5, 2), over(filter(3, impl.OpMore, 1), []impl.Node{scan("t3")}), []impl.Node{scan("t1")}))), chain(impl.MaxDepth)}
	kept, other := 0, 0
	for _, p := range append(plans, everyPlan(nodes, 3)...) {
		width := impl.WidthOf(s, p)
		if width == -1 {
			continue
		}
		for k := range p {
			was := impl.WidthAt(s, p, k)
			if was == -1 {
				t.Fatalf("%v has a width, but none at %d", p, k)
			}
			for _, part := range parts {
				put, ok := impl.PutPart(p, k, part)
				if !ok {
					continue
				}
				got := impl.WidthOf(s, put)
				if impl.WidthOf(s, part) == was {
					kept++
					if got != width || !impl.TypedOk(s, put) || impl.WidthAt(s, put, k) != was {
						t.Fatalf("PutPart(%v, %d, %v) is %d wide and was %d", p, k, part, got, width)
					}
				} else {
					other++
					if got != wantWidth(s, put) {
						t.Fatalf("WidthOf(%v) = %d, want %d", put, got, wantWidth(s, put))
					}
				}
			}
		}
	}
	if kept < 5000 || other < 5000 {
		t.Errorf("%d and %d parts were put", kept, other)
	}
}

func TestPartOf64ColumnsKeepsTheWidth(t *testing.T) {
	s := sizedTables()
	for width := 1; width <= 64; width++ {
		p := over(limit(9), over(filter(width-1, impl.OpNone, 0), wide(width)))
		for _, part := range [][]impl.Node{over(once(), wide(width)), over(sortBy(width-1), wide(width))} {
			put, ok := impl.PutPart(p, 2, part)
			if !ok || impl.WidthOf(s, put) != width || impl.WidthOf(s, p) != width {
				t.Errorf("a part of %d columns: %d, %v", width, impl.WidthOf(s, put), ok)
			}
		}
	}
}

func TestWidthAt(t *testing.T) {
	s := []impl.Table{table("t1", 2), table("t2", 1)}
	p := []impl.Node{keep(2), joinOn(0, 0), filter(1, impl.OpMore, 5), scan("t1"), scan("t2")}
	for k, want := range []int{1, 3, 2, 2, 1} {
		if got := impl.WidthAt(s, p, k); got != want {
			t.Errorf("WidthAt %d = %d, want %d", k, got, want)
		}
	}
	// A part has its width, though the whole has none.
	p = []impl.Node{both(), sortBy(2), scan("t1"), both(), scan("t3"), once(), scan("t2")}
	for k, want := range []int{-1, -1, 2, -1, -1, 1, 1} {
		if got := impl.WidthAt(s, p, k); got != want {
			t.Errorf("WidthAt %d of what has no width = %d, want %d", k, got, want)
		}
	}
	for _, p := range append(ordinaryPlans(), p) {
		for _, k := range noNodes(p) {
			if got := impl.WidthAt(s, p, k); got != -1 {
				t.Errorf("WidthAt(%v, %d) = %d, want -1", p, k, got)
			}
		}
	}
}

func TestWidthOfNoPlan(t *testing.T) {
	for name, p := range noPlans() {
		for _, s := range ordinarySchemas() {
			if impl.WidthOf(s, p) != -1 || impl.TypedOk(s, p) {
				t.Errorf("%s: it has a width", name)
			}
			for k := -1; k <= min(len(p), 45); k++ {
				if impl.WidthAt(s, p, k) != -1 {
					t.Errorf("%s: it has a width at %d", name, k)
				}
			}
		}
	}
}

func TestSchemaWithoutTables(t *testing.T) {
	for _, s := range [][]impl.Table{nil, {}} {
		for _, p := range ordinaryPlans() {
			hasWidth(t, s, p, -1)
			for k := range p {
				if impl.WidthAt(s, p, k) != -1 {
					t.Errorf("%v has a width at %d", p, k)
				}
			}
		}
		for _, name := range []string{"", "t1", " "} {
			if got, ok := impl.FindTable(s, name); ok || got != (impl.Table{}) {
				t.Errorf("FindTable of %q = %v, %v", name, got, ok)
			}
		}
		if got, ok := impl.PutTable(s, table("t1", 2)); !ok || !slices.Equal(got, []impl.Table{table("t1", 2)}) {
			t.Errorf("PutTable = %v, %v", got, ok)
		}
		if got := impl.SchemaText(s); got != "" {
			t.Errorf("SchemaText is %q", got)
		}
		if got, ok := impl.PutTable(s, table("t1", 7)); ok || len(got) != 0 {
			t.Errorf("PutTable of what is no Table = %v, %v", got, ok)
		}
	}
	if got, ok := impl.ParseSchema(""); !ok || len(got) != 0 {
		t.Errorf("ParseSchema of an empty text = %v, %v", got, ok)
	}
}

func TestFindTable(t *testing.T) {
	for _, s := range ordinarySchemas() {
		for _, x := range s {
			if got, ok := impl.FindTable(s, x.Name); !ok || got != x {
				t.Errorf("FindTable(%v, %q) = %v, %v", s, x.Name, got, ok)
			}
			for _, name := range []string{x.Name + "x", x.Name[1:], strings.ToUpper(x.Name), " " + x.Name, x.Name + "/2"} {
				want := slices.IndexFunc(s, func(y impl.Table) bool { return y.Name == name })
				got, ok := impl.FindTable(s, name)
				if ok != (want >= 0) || !ok && got != (impl.Table{}) || ok && got != s[want] {
					t.Errorf("FindTable(%v, %q) = %v, %v", s, name, got, ok)
				}
			}
		}
		for _, name := range []string{"", "zz", "T1", "1", "\xff", strings.Repeat("a", 5000)} {
			if got, ok := impl.FindTable(s, name); ok || got != (impl.Table{}) {
				t.Errorf("FindTable(%v, %q) = %v, %v", s, name, got, ok)
			}
		}
	}
}

// wantPut looks for the place of t from the front on.
func wantPut(s []impl.Table, t impl.Table) []impl.Table {
	for i, x := range s {
		if x.Name == t.Name {
			return slices.Concat(s[:i], []impl.Table{t}, s[i+1:])
		}
		if x.Name > t.Name {
			return slices.Concat(s[:i], []impl.Table{t}, s[i:])
		}
	}
	return slices.Concat(s, []impl.Table{t})
}

func TestPutTable(t *testing.T) {
	names := []string{"a", "a0", "a1", "a5", "a7", "aa", "abcdefghijkl", "b", "t0", "t1", "t10", "t2", "t3", "w3", "zzzzzzzzzzzz"}
	for _, s := range ordinarySchemas() {
		for _, name := range names {
			for width := 1; width <= impl.MaxCols; width++ {
				x := table(name, width)
				want := wantPut(s, x)
				full := len(want) > impl.MaxTables
				if full {
					want = s
				}
				got, ok := impl.PutTable(s, x)
				if ok == full || !slices.Equal(got, want) {
					t.Errorf("PutTable(%v, %v) = %v, %v", s, x, got, ok)
				}
				if back, found := impl.FindTable(got, name); !full && (!found || back != x) {
					t.Errorf("%v was put and is found as %v, %v", x, back, found)
				}
			}
		}
		for _, x := range []impl.Table{{}, table("", 1), table("t1", 0), table("t1", 7), table("t1", -1), table("t1", math.MaxInt), table("t1", math.MinInt), table("a0", 7), table("a0", 0), table("1a", 1), table("A", 1), table("a b", 1), table("abcdefghijklm", 1), table("\xff", 1)} {
			if got, ok := impl.PutTable(s, x); ok || !slices.Equal(got, s) {
				t.Errorf("PutTable(%v, %v) = %v, %v, want s and false", s, x, got, ok)
			}
		}
		for _, x := range s {
			if got, ok := impl.PutTable(s, x); !ok || !slices.Equal(got, s) {
				t.Errorf("PutTable(%v, %v) = %v, %v", s, x, got, ok)
			}
		}
	}
}

func TestTablesArePutInAnyOrder(t *testing.T) {
	want := manyTables(impl.MaxTables)
	for first := range want {
		for step := 1; step < 8; step += 2 {
			var s []impl.Table
			for i := range want {
				s, _ = impl.PutTable(s, want[(first+i*step)%8])
			}
			if !slices.Equal(s, want) {
				t.Errorf("from %d by %d: %v", first, step, s)
			}
		}
	}
	if got, ok := impl.PutTable(want, table("a8", 1)); ok || !slices.Equal(got, want) {
		t.Errorf("a ninth table: %v, %v", got, ok)
	}
}

func TestSchemaText(t *testing.T) {
	for _, c := range []struct {
		s    []impl.Table
		want string
	}{
		{nil, ""},
		{[]impl.Table{table("t1", 2)}, "t1/2"},
		{[]impl.Table{table("t1", 2), table("t2", 1)}, "t1/2 t2/1"},
		{[]impl.Table{table("a", 1), table("abcdefghijkl", 6)}, "a/1 abcdefghijkl/6"},
		{manyTables(8), "a0/1 a1/2 a2/3 a3/4 a4/5 a5/6 a6/1 a7/2"},
		{manyTables(9), ""},
	} {
		if got := impl.SchemaText(c.s); got != c.want {
			t.Errorf("SchemaText(%v) = %q, want %q", c.s, got, c.want)
		}
	}
}

// wantSchema reads a text by its form, and the order of the Names apart from it.
func wantSchema(text string) ([]impl.Table, bool) {
	if text == "" {
		return nil, true
	}
	if !schemaForm.MatchString(text) {
		return nil, false
	}
	var s []impl.Table
	for _, found := range tableForm.FindAllStringSubmatch(text, -1) {
		if len(s) > 0 && s[len(s)-1].Name >= found[1] {
			return nil, false
		}
		s = append(s, table(found[1], int(found[2][0]-'0')))
	}
	return s, true
}

var (
	schemaForm = regexp.MustCompile(`\A[a-z][a-z0-9]{0,11}/[1-6]( [a-z][a-z0-9]{0,11}/[1-6]){0,7}\z`)
	tableForm  = regexp.MustCompile(`([a-z][a-z0-9]*)/([1-6])`)
)

func readAs(t *testing.T, text string) {
	t.Helper()
	want, is := wantSchema(text)
	got, ok := impl.ParseSchema(text)
	if ok != is || !slices.Equal(got, want) {
		t.Errorf("ParseSchema(%q) = %v, %v, want %v, %v", text, got, ok, want, is)
	}
	if ok && (!impl.SchemaOk(got) || impl.SchemaText(got) != text) {
		t.Errorf("%q is read, but written as %q", text, impl.SchemaText(got))
	}
}

// Promise 3, of schemas.
func TestSchemaIsReadAsItWasWritten(t *testing.T) {
	for _, s := range ordinarySchemas() {
		text := impl.SchemaText(s)
		if got, ok := impl.ParseSchema(text); !ok || !slices.Equal(got, s) {
			t.Errorf("%v is written as %q and read as %v, %v", s, text, got, ok)
		}
		readAs(t, text)
	}
	for name, s := range noSchemas() {
		if got, ok := impl.ParseSchema(impl.SchemaText(s)); !ok || len(got) != 0 {
			t.Errorf("%s: read as %v, %v", name, got, ok)
		}
	}
}

// At each place of the text of a schema it is cut, a byte is left out, made each other one, and has each ahead of it.
func TestNothingElseIsReadAsASchema(t *testing.T) {
	for _, s := range ordinarySchemas() {
		text := impl.SchemaText(s)
		for i := range len(text) + 1 {
			readAs(t, text[:i])
			readAs(t, text[i:])
			for c := range 256 {
				readAs(t, text[:i]+string([]byte{byte(c)})+text[i:])
				if i < len(text) {
					readAs(t, text[:i]+string([]byte{byte(c)})+text[i+1:])
				}
			}
			if i < len(text) {
				readAs(t, text[:i]+text[i+1:])
			}
		}
	}
}

func TestEveryShortSchemaText(t *testing.T) {
	read := 0
	texts := []string{""}
	for from := 0; from < len(texts); from++ {
		readAs(t, texts[from])
		if _, ok := wantSchema(texts[from]); ok {
			read++
		}
		if len(texts[from]) == 7 {
			continue
		}
		for _, c := range "ab/ 17" {
			texts = append(texts, texts[from]+string(c))
		}
	}
	// Names of 1 to 5 letters, of which the first is one of two and the others of four, and a/1 b/1.
	if want := 1 + 2*(1+4+16+64+256) + 1; read != want {
		t.Errorf("%d texts are read, want %d", read, want)
	}
}

func TestNearlyASchemaText(t *testing.T) {
	for _, text := range []string{
		" ", "\n", "t1", "t1/", "/2", "/", "t1 2", "t1 /2", "t1/ 2", "t1:2", "t1//2", "t1/2/", "t1/2/3",
		"t2/1 t1/2", "t1/2 t1/2", "t1/2 t1/3", "t10/1 t1/1", "t1/1 t2/1 t1/1", "b/1 c/1 a/1",
		"t1/2  t2/1", " t1/2", "t1/2 ", " t1/2 t2/1 ", "t1/2\nt2/1", "t1/2\tt2/1", "t1/2\n", "t1/2,t2/1", "t1/2t2/1", "t1/2 t2", "t1/2 /1", "t1/2 t2/",
		"t1/02", "t1/+2", "t1/-2", "t1/2.0", "t1/0x2", "t1/0b1", "t1/1_0", "t1/two", "t1/$2", "t1/٢", "t1/2 t2/01",
		"t1/0", "t1/7", "t1/10", "t1/-1", "t1/-0", "t1/1000000", "t1/99999999999999999999", "t1/18446744073709551617", "t1/2 t2/7", "t1/0 t2/1",
		"T1/2", "1t/2", "t_1/2", "tä/2", "t\x00/2", "t\xff/2", "abcdefghijklm/1", strings.Repeat("a", 300) + "/1", strings.Repeat("a/1 ", 300), strings.Repeat(" ", 300), strings.Repeat("/", 300),
		"a0/1 a1/2 a2/3 a3/4 a4/5 a5/6 a6/1 a7/2 a8/3", "a0/1 a1/2 a2/3 a3/4 a4/5 a5/6 a6/1 a7/2 ", "a0/1 a1/2 a2/3 a3/4 a4/5 a5/6 a6/1 a7/2 a8", "-", "none",
	} {
		if got, ok := impl.ParseSchema(text); ok || len(got) != 0 {
			t.Errorf("ParseSchema(%q) = %v, %v, want nothing and false", text, got, ok)
		}
	}
}

func spoilTables(s []impl.Table) {
	for i := range s {
		s[i] = table("spoilt", 99)
	}
	_ = append(s, table("spoilt", 98))
}

func TestSchemaAnswersAreNewMemory(t *testing.T) {
	for _, count := range []int{1, 3, impl.MaxTables, impl.MaxTables + 1} {
		s := append(make([]impl.Table, 0, 20), manyTables(count)...)
		for _, x := range []impl.Table{s[0], table("a0", 6), table("b", 1), table("", 1), table("b", 7)} {
			got, _ := impl.PutTable(s, x)
			spoilTables(got)
		}
		if !slices.Equal(s, manyTables(count)) || !slices.Equal(s[:20][count:], make([]impl.Table, 20-count)) {
			t.Errorf("%d tables: an answer shares memory with an argument", count)
		}
	}
	first, _ := impl.ParseSchema("a/1 b/2")
	spoilTables(first)
	if again, ok := impl.ParseSchema("a/1 b/2"); !ok || !slices.Equal(again, []impl.Table{table("a", 1), table("b", 2)}) {
		t.Error("an answer is kept from one call to another")
	}
}

func TestWidthArgumentsStay(t *testing.T) {
	s := append(make([]impl.Table, 0, 20), table("t1", 3), table("t2", 1))
	bad := append(make([]impl.Table, 0, 20), table("t2", 3), table("t1", 1), table("t2", 1))
	p := append(make([]impl.Node, 0, 20), once(), joinOn(2, 0), keep(2, 1, 0), scan("t1"), scan("t2"))
	for _, given := range [][]impl.Table{s, bad} {
		impl.SchemaOk(given)
		impl.WidthOf(given, p)
		impl.TypedOk(given, p)
		impl.FindTable(given, "t2")
		impl.PutTable(given, table("a", 1))
		impl.SchemaText(given)
		for k := -1; k <= len(p); k++ {
			impl.WidthAt(given, p, k)
		}
	}
	if !slices.Equal(s, []impl.Table{table("t1", 3), table("t2", 1)}) || !slices.Equal(bad, []impl.Table{table("t2", 3), table("t1", 1), table("t2", 1)}) || !slices.Equal(s[:20][2:], make([]impl.Table, 18)) {
		t.Error("something is written into a schema")
	}
	if !sameNodes(p, []impl.Node{once(), joinOn(2, 0), keep(2, 1, 0), scan("t1"), scan("t2")}) || !sameNodes(p[:20][5:], make([]impl.Node, 15)) {
		t.Error("something is written into a plan")
	}
}
