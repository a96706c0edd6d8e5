package tests

import (
	"math"
	"slices"
	"strings"
	"testing"

	"loop.example/g00844/impl"
)

func scan(name string) impl.Node { return impl.Node{Kind: impl.NodeScan, Name: name} }

func filter(col int, op int, num int) impl.Node {
	return impl.Node{Kind: impl.NodeFilter, Col: col, Op: op, Num: num}
}

func keep(cols ...int) impl.Node { return impl.Node{Kind: impl.NodeKeep, Cols: cols} }

func joinOn(left int, right int) impl.Node {
	return impl.Node{Kind: impl.NodeJoin, Col: left, Num: right}
}

func both() impl.Node { return impl.Node{Kind: impl.NodeBoth} }

func sortBy(col int) impl.Node { return impl.Node{Kind: impl.NodeSort, Col: col} }

func limit(num int) impl.Node { return impl.Node{Kind: impl.NodeLimit, Num: num} }

func once() impl.Node { return impl.Node{Kind: impl.NodeOnce} }

func asSlot(n impl.Node) impl.Node {
	n.Slot = true
	return n
}

// A chain is that many nodes deep.
func chain(depth int) []impl.Node {
	p := []impl.Node{scan("t1")}
	for len(p) < depth {
		p = append([]impl.Node{once()}, p...)
	}
	return p
}

// bushy is a plan of 2 * leaves - 1 nodes that is as flat as they allow.
func bushy(leaves int) []impl.Node {
	if leaves == 1 {
		return []impl.Node{scan("t2")}
	}
	return slices.Concat([]impl.Node{both()}, bushy(leaves/2), bushy(leaves-leaves/2))
}

// bushyOf has any number of nodes from 1 on.
func bushyOf(nodes int) []impl.Node {
	if nodes%2 == 0 {
		return append([]impl.Node{once()}, bushy(nodes/2)...)
	}
	return bushy(nodes/2 + 1)
}

func ordinaryPlans() [][]impl.Node {
	return [][]impl.Node{
		{scan("t1")},
		{filter(1, impl.OpMore, 5), scan("t1")},
		{joinOn(0, 0), filter(1, impl.OpMore, 5), scan("t1"), scan("t2")},
		{once(), sortBy(0), keep(1, 0, 1), scan("t3")},
		{limit(3), joinOn(2, 1), both(), scan("t1"), filter(0, impl.OpNone, 0), scan("b"), asSlot(limit(0)), keep(4), scan("t1")},
		{both(), both(), scan("a"), scan("b"), both(), scan("c"), scan("a")},
		{keep(0, 1, 2, 3, 4, 5), joinOn(63, 63), asSlot(filter(63, impl.OpLess, 39)), scan("abcdefghijkl"), filter(0, impl.OpSame, -impl.MaxNum), scan("z9")},
		chain(2), chain(impl.MaxDepth), bushyOf(39), bushyOf(impl.MaxNodes),
	}
}

func noPlans() map[string][]impl.Node {
	return map[string][]impl.Node{
		"no nodes":                nil,
		"no nodes, not nil":       {},
		"one node too early":      {once()},
		"join with one child":     {joinOn(0, 0), scan("t1")},
		"join without children":   {joinOn(0, 0)},
		"ends in a lower part":    {both(), scan("t1"), once()},
		"a node behind":           {scan("t1"), scan("t2")},
		"a node behind a chain":   {once(), scan("t1"), once()},
		"a plan behind":           {scan("t1"), once(), scan("t2")},
		"41 nodes":                bushyOf(impl.MaxNodes + 1),
		"40 nodes and one behind": append(bushyOf(impl.MaxNodes), scan("t1")),
		"11 deep":                 chain(impl.MaxDepth + 1),
		"41 deep":                 chain(impl.MaxNodes + 1),
		"11 deep on the left":     append(append([]impl.Node{both()}, chain(impl.MaxDepth)...), scan("t1")),
		"11 deep on the right":    append([]impl.Node{both(), scan("t1")}, chain(impl.MaxDepth)...),
		"a bad leaf":              {once(), scan("T1")},
		"a bad first node":        {filter(64, impl.OpSame, 0), scan("t1")},
		"a bad node in between":   {once(), keep(), scan("t1")},
		"a Kind that is none":     {{Kind: 8}, scan("t1")},
		"a field that is not so":  {{Kind: impl.NodeOnce, Num: 1}, scan("t1")},
		"very many nodes":         chain(2000),
	}
}

// The places of p that are not there.
func noNodes(p []impl.Node) []int {
	return []int{math.MinInt, -2, -1, len(p), len(p) + 1, math.MaxInt}
}

func wantArity(kind int) int {
	return [...]int{0, 1, 1, 2, 2, 1, 1, 1}[kind]
}

// wantEnd counts how many nodes are still wanted; 0 when the list ends first.
func wantEnd(p []impl.Node, k int) int {
	wanted := 1
	for i := k; i < len(p); i++ {
		wanted += wantArity(p[i].Kind) - 1
		if wanted == 0 {
			return i + 1
		}
	}
	return 0
}

// wantAbove counts how many nodes stand above a place: those that begin ahead of it and end behind it.
func wantAbove(p []impl.Node, k int) int {
	above := 0
	for i := range k {
		if wantEnd(p, i) > k {
			above++
		}
	}
	return above
}

func wantDepth(p []impl.Node) int {
	most := 0
	for k := range p {
		most = max(most, wantAbove(p, k)+1)
	}
	return most
}

func wantChildren(p []impl.Node, k int) []int {
	var places []int
	next := k + 1
	for range wantArity(p[k].Kind) {
		places = append(places, next)
		next = wantEnd(p, next)
	}
	return places
}

func deepCopy(p []impl.Node) []impl.Node {
	out := make([]impl.Node, len(p))
	for i, n := range p {
		n.Cols = append([]int(nil), n.Cols...)
		out[i] = n
	}
	return out
}

func sameNodes(a []impl.Node, b []impl.Node) bool {
	return slices.EqualFunc(a, b, func(x impl.Node, y impl.Node) bool {
		return x.Kind == y.Kind && x.Name == y.Name && x.Col == y.Col && x.Op == y.Op && x.Num == y.Num && x.Slot == y.Slot && slices.Equal(x.Cols, y.Cols)
	})
}

// fitNodes are nodes, of each kind and at both ends of each field.
func fitNodes() []impl.Node {
	return []impl.Node{
		scan("a"), scan("t1"), scan("abcdefghijkl"),
		filter(0, impl.OpSame, 0), filter(63, impl.OpSame, 1), filter(1, impl.OpLess, -impl.MaxNum), filter(1, impl.OpMore, impl.MaxNum), filter(1, impl.OpMore, 40),
		filter(0, impl.OpNone, 0), filter(63, impl.OpNone, 0),
		asSlot(filter(0, impl.OpSame, 0)), asSlot(filter(0, impl.OpLess, 39)), asSlot(filter(63, impl.OpMore, 1)),
		keep(0), keep(63), keep(5, 5), keep(0, 1, 2, 3, 4, 5), keep(63, 63, 63, 63, 63, 63),
		joinOn(0, 0), joinOn(63, 0), joinOn(0, 63), both(), sortBy(0), sortBy(63),
		limit(0), limit(40), limit(impl.MaxNum), asSlot(limit(0)), asSlot(limit(39)), once(),
		{Kind: impl.NodeScan, Name: "t1", Cols: []int{}}, {Kind: impl.NodeOnce, Cols: []int{}},
	}
}

// unfitNodes are none, most of them for one field that is just beyond its end.
func unfitNodes() []impl.Node {
	return []impl.Node{
		scan(""), scan("1a"), scan("A"), scan("a b"), scan("abcdefghijklm"), scan(strings.Repeat("a", 5000)),
		filter(-1, impl.OpSame, 0), filter(64, impl.OpSame, 0), filter(math.MaxInt, impl.OpSame, 0), filter(math.MinInt, impl.OpSame, 0),
		filter(0, -1, 0), filter(0, 4, 0), filter(0, math.MaxInt, 0),
		filter(0, impl.OpSame, impl.MaxNum+1), filter(0, impl.OpLess, -impl.MaxNum-1), filter(0, impl.OpMore, math.MinInt),
		filter(0, impl.OpNone, 1), filter(0, impl.OpNone, -1), filter(64, impl.OpNone, 0),
		asSlot(filter(0, impl.OpSame, -1)), asSlot(filter(0, impl.OpSame, 40)), asSlot(filter(0, impl.OpMore, impl.MaxNum)), asSlot(filter(64, impl.OpSame, 0)), asSlot(filter(0, 4, 0)),
		asSlot(filter(0, impl.OpNone, 0)), asSlot(filter(0, impl.OpNone, 1)),
		keep(), {Kind: impl.NodeKeep, Cols: []int{}}, keep(0, 1, 2, 3, 4, 5, 6), keep(-1), keep(64), keep(0, 1, 2, 3, 4, 64), keep(0, -1, 2), keep(math.MinInt), {Kind: impl.NodeKeep, Cols: make([]int, 5000)},
		joinOn(-1, 0), joinOn(0, -1), joinOn(64, 0), joinOn(0, 64), joinOn(math.MaxInt, math.MaxInt),
		sortBy(-1), sortBy(64), sortBy(math.MinInt),
		limit(-1), limit(impl.MaxNum + 1), limit(math.MinInt), asSlot(limit(-1)), asSlot(limit(40)), asSlot(limit(impl.MaxNum)),
		{Kind: -1}, {Kind: 8}, {Kind: math.MaxInt}, {Kind: math.MinInt}, {Kind: 8, Name: "t1"}, {},
	}
}

func TestNodeOk(t *testing.T) {
	for _, n := range fitNodes() {
		if !impl.NodeOk(n) {
			t.Errorf("%+v is a node", n)
		}
	}
}

func TestNoNode(t *testing.T) {
	for _, n := range unfitNodes() {
		if impl.NodeOk(n) {
			t.Errorf("%+v is no node", n)
		}
		if impl.PlanOk([]impl.Node{n, scan("t1")}) || impl.PlanOk([]impl.Node{n}) || impl.PlanOk([]impl.Node{n, scan("t1"), scan("t1")}) {
			t.Errorf("%+v is in a plan", n)
		}
	}
}

func TestFieldsThatAreNotNamedAreEmpty(t *testing.T) {
	set := map[string]func(*impl.Node){
		"Name": func(n *impl.Node) { n.Name = "a" },
		"Col":  func(n *impl.Node) { n.Col = 1 },
		"Op":   func(n *impl.Node) { n.Op = impl.OpLess },
		"Num":  func(n *impl.Node) { n.Num = 1 },
		"Slot": func(n *impl.Node) { n.Slot = true },
		"Cols": func(n *impl.Node) { n.Cols = []int{0} },
	}
	named := map[string]string{"scan": "Name", "filter": "Col Op Num Slot", "keep": "Cols", "join": "Col Num", "both": "", "sort": "Col", "limit": "Num Slot", "once": ""}
	plain := map[string]impl.Node{"scan": scan("t1"), "filter": filter(2, 0, 2), "keep": keep(2), "join": joinOn(2, 2), "both": both(), "sort": sortBy(2), "limit": limit(2), "once": once()}
	for kind, fields := range named {
		for field, put := range set {
			n := plain[kind]
			put(&n)
			if want := slices.Contains(strings.Fields(fields), field); impl.NodeOk(n) != want {
				t.Errorf("a %s with %s: NodeOk is %v", kind, field, !want)
			}
		}
	}
}

func TestArityOf(t *testing.T) {
	for kind := impl.NodeScan; kind <= impl.NodeOnce; kind++ {
		if got := impl.ArityOf(kind); got != wantArity(kind) {
			t.Errorf("ArityOf(%d) = %d", kind, got)
		}
	}
	for _, kind := range []int{-1, 8, 9, math.MaxInt, math.MinInt} {
		if got := impl.ArityOf(kind); got != -1 {
			t.Errorf("ArityOf(%d) = %d, want -1", kind, got)
		}
	}
}

func TestPlanOk(t *testing.T) {
	for _, p := range ordinaryPlans() {
		if !impl.PlanOk(p) {
			t.Errorf("%v is a plan", p)
		}
	}
	for name, p := range noPlans() {
		if impl.PlanOk(p) {
			t.Errorf("%s: no plan", name)
		}
	}
	for nodes := range 60 {
		if got := nodes > 0 && impl.PlanOk(bushyOf(nodes)); got != (1 <= nodes && nodes <= impl.MaxNodes) {
			t.Errorf("%d nodes: %v", nodes, got)
		}
	}
	for depth := 1; depth < 60; depth++ {
		if got := impl.PlanOk(chain(depth)); got != (depth <= impl.MaxDepth) {
			t.Errorf("%d deep: %v", depth, got)
		}
	}
}

func TestPlacesOfAPlan(t *testing.T) {
	for _, p := range ordinaryPlans() {
		if got := impl.DepthOf(p); got != wantDepth(p) {
			t.Errorf("DepthOf(%v) = %d, want %d", p, got, wantDepth(p))
		}
		for k := range p {
			end := wantEnd(p, k)
			if got := impl.EndOf(p, k); got != end {
				t.Errorf("EndOf(%v, %d) = %d, want %d", p, k, got, end)
			}
			if got := impl.ChildrenOf(p, k); !slices.Equal(got, wantChildren(p, k)) {
				t.Errorf("ChildrenOf(%v, %d) = %v, want %v", p, k, got, wantChildren(p, k))
			}
			if got := impl.PartOf(p, k); !sameNodes(got, p[k:end]) || !impl.PlanOk(got) {
				t.Errorf("PartOf(%v, %d) = %v", p, k, got)
			}
		}
	}
}

// Promise 2.
func TestPartInItsOwnPlaceChangesNothing(t *testing.T) {
	for _, p := range ordinaryPlans() {
		for k := range p {
			got, ok := impl.PutPart(p, k, impl.PartOf(p, k))
			if !ok || !sameNodes(got, p) || !impl.SamePlan(got, p) {
				t.Errorf("PutPart(%v, %d) of its own part = %v, %v", p, k, got, ok)
			}
		}
	}
}

// Lists of up to six nodes of each arity, with one that is no node.
func TestEveryShortList(t *testing.T) {
	nodes := []impl.Node{scan("t1"), once(), both(), {Kind: impl.NodeOnce, Col: 1}}
	lists := [][]impl.Node{{}}
	for from := 0; len(lists[from]) < 6; from++ {
		for _, n := range nodes {
			lists = append(lists, append(deepCopy(lists[from]), n))
		}
	}
	plans := 0
	for _, p := range lists {
		bad := slices.ContainsFunc(p, func(n impl.Node) bool { return n.Col == 1 })
		if bad || len(p) == 0 || wantEnd(p, 0) != len(p) {
			refused(t, p)
			continue
		}
		plans++
		for k := range p {
			got, ok := impl.PutPart(p, k, impl.PartOf(p, k))
			if impl.EndOf(p, k) != wantEnd(p, k) || !slices.Equal(impl.ChildrenOf(p, k), wantChildren(p, k)) || !ok || !sameNodes(got, p) {
				t.Errorf("%v at %d", p, k)
			}
		}
		if impl.DepthOf(p) != wantDepth(p) {
			t.Errorf("DepthOf(%v) = %d", p, impl.DepthOf(p))
		}
	}
	// The Motzkin numbers count trees of nodes with 0, 1 or 2 children: 1, 1, 2, 4, 9, 21.
	if plans != 1+1+2+4+9+21 {
		t.Errorf("%d plans of up to six nodes", plans)
	}
}

// refused asks every function of the chapter for its answer to what is no plan.
func refused(t *testing.T, p []impl.Node) {
	t.Helper()
	one := []impl.Node{scan("t1")}
	if impl.PlanOk(p) || impl.DepthOf(p) != 0 || len(impl.TablesOf(p)) != 0 || impl.CountKind(p, impl.NodeScan) != -1 || impl.CountKind(p, 8) != -1 {
		t.Errorf("%v is no plan", p)
	}
	for k := -1; k <= len(p)+1; k++ {
		if k > 45 && k < len(p) {
			continue
		}
		got, ok := impl.PutPart(p, k, one)
		if impl.EndOf(p, k) != -1 || len(impl.ChildrenOf(p, k)) != 0 || len(impl.PartOf(p, k)) != 0 || ok || !sameNodes(got, p) {
			t.Errorf("%v is no plan, at %d", p, k)
		}
	}
	if got, ok := impl.PutPart(one, 0, p); ok || !sameNodes(got, one) {
		t.Errorf("%v was put as a part", p)
	}
}

func TestNoPlan(t *testing.T) {
	for _, p := range noPlans() {
		refused(t, p)
	}
}

func TestNoPlace(t *testing.T) {
	part := []impl.Node{scan("t1")}
	for _, p := range ordinaryPlans() {
		for _, k := range noNodes(p) {
			if got := impl.EndOf(p, k); got != -1 {
				t.Errorf("EndOf(%v, %d) = %d, want -1", p, k, got)
			}
			if got := impl.ChildrenOf(p, k); len(got) != 0 {
				t.Errorf("ChildrenOf(%v, %d) = %v, want nothing", p, k, got)
			}
			if got := impl.PartOf(p, k); len(got) != 0 {
				t.Errorf("PartOf(%v, %d) = %v, want nothing", p, k, got)
			}
			if got, ok := impl.PutPart(p, k, part); ok || !sameNodes(got, p) {
				t.Errorf("PutPart(%v, %d) = %v, %v, want p and false", p, k, got, ok)
			}
		}
	}
}

func TestTablesOf(t *testing.T) {
	for _, c := range []struct {
		p    []impl.Node
		want []string
	}{
		{[]impl.Node{scan("t1")}, []string{"t1"}},
		{[]impl.Node{joinOn(0, 0), scan("t2"), scan("t1")}, []string{"t1", "t2"}},
		{[]impl.Node{both(), both(), scan("b"), scan("a"), both(), scan("b"), scan("a")}, []string{"a", "b"}},
		{[]impl.Node{both(), both(), scan("ab"), scan("b"), both(), scan("a"), both(), scan("a1"), scan("a10")}, []string{"a", "a1", "a10", "ab", "b"}},
		{bushyOf(impl.MaxNodes), []string{"t2"}},
	} {
		if got := impl.TablesOf(c.p); !slices.Equal(got, c.want) {
			t.Errorf("TablesOf(%v) = %v, want %v", c.p, got, c.want)
		}
	}
}

func TestCountKind(t *testing.T) {
	for _, p := range ordinaryPlans() {
		sum := 0
		for kind := impl.NodeScan; kind <= impl.NodeOnce; kind++ {
			want := 0
			for _, n := range p {
				if n.Kind == kind {
					want++
				}
			}
			if got := impl.CountKind(p, kind); got != want {
				t.Errorf("CountKind(%v, %d) = %d, want %d", p, kind, got, want)
			}
			sum += impl.CountKind(p, kind)
		}
		if sum != len(p) || impl.CountKind(p, -1) != 0 || impl.CountKind(p, 8) != 0 || impl.CountKind(p, math.MaxInt) != 0 {
			t.Errorf("CountKind(%v): %d in all", p, sum)
		}
	}
}

func TestSamePlan(t *testing.T) {
	plans := ordinaryPlans()
	for i, a := range plans {
		for j, b := range plans {
			if got := impl.SamePlan(a, deepCopy(b)); got != (i == j) {
				t.Errorf("SamePlan of %v and %v is %v", a, b, got)
			}
		}
	}
	full := impl.Node{Kind: 1, Name: "a", Col: 1, Op: 1, Num: 1, Slot: true, Cols: []int{1, 2}}
	others := []impl.Node{full, full, full, full, full, full, full, full, full, full}
	others[0].Kind = 2
	others[1].Name = "b"
	others[2].Col = 2
	others[3].Op = 2
	others[4].Num = 2
	others[5].Slot = false
	others[6].Cols = []int{1, 3}
	others[7].Cols = []int{1}
	others[8].Cols = []int{1, 2, 0}
	others[9].Cols = nil
	for _, n := range others {
		if impl.SamePlan([]impl.Node{full}, []impl.Node{n}) || impl.SamePlan([]impl.Node{once(), n}, []impl.Node{once(), full}) {
			t.Errorf("%+v is not %+v", n, full)
		}
	}
	// Lists that are no plans are held against each other as well.
	if !impl.SamePlan([]impl.Node{full}, deepCopy([]impl.Node{full})) || !impl.SamePlan(nil, nil) || !impl.SamePlan(nil, []impl.Node{}) || impl.SamePlan(nil, []impl.Node{{}}) || impl.SamePlan([]impl.Node{{}}, nil) {
		t.Error("lists that are no plans")
	}
	if !impl.SamePlan([]impl.Node{{Cols: []int{}}}, []impl.Node{{}}) {
		t.Error("an empty list and nil are the same")
	}
	if impl.SamePlan(chain(5), chain(4)) || impl.SamePlan(chain(5)[:4], chain(5)) {
		t.Error("a beginning is not the whole")
	}
}

func TestPutPart(t *testing.T) {
	p := []impl.Node{joinOn(0, 0), filter(1, impl.OpMore, 5), scan("t1"), scan("t2")}
	part := []impl.Node{keep(2), scan("t3")}
	for k, want := range [][]impl.Node{
		{keep(2), scan("t3")},
		{joinOn(0, 0), keep(2), scan("t3"), scan("t2")},
		{joinOn(0, 0), filter(1, impl.OpMore, 5), keep(2), scan("t3"), scan("t2")},
		{joinOn(0, 0), filter(1, impl.OpMore, 5), scan("t1"), keep(2), scan("t3")},
	} {
		if got, ok := impl.PutPart(p, k, part); !ok || !sameNodes(got, want) {
			t.Errorf("PutPart at %d = %v, %v, want %v", k, got, ok, want)
		}
	}
}

// Some lists that are no plans make one with what stands around them.
func TestNoPlanIsPutThoughOneComes(t *testing.T) {
	p := []impl.Node{both(), scan("t1"), scan("t2")}
	for _, part := range [][]impl.Node{{scan("t3"), once()}, {scan("t3"), both(), scan("t1")}, {once(), scan("t3"), keep(1)}} {
		if come := slices.Concat(p[:1], part, p[2:]); !impl.PlanOk(come) {
			t.Errorf("%v is a plan", come)
		}
		if got, ok := impl.PutPart(p, 1, part); ok || !sameNodes(got, p) {
			t.Errorf("PutPart of %v = %v, %v, want p and false", part, got, ok)
		}
	}
}

func TestPutPartToTheLimits(t *testing.T) {
	whole := bushyOf(impl.MaxNodes - 2)
	last := len(whole) - 1
	for _, c := range []struct {
		p    []impl.Node
		k    int
		part []impl.Node
		ok   bool
	}{
		{whole, last, bushyOf(3), true},
		{whole, last, bushyOf(4), false},
		{whole, 0, bushyOf(impl.MaxNodes), true},
		{chain(6), 5, chain(5), true},
		{chain(6), 5, chain(6), false},
		{chain(6), 4, chain(6), true},
		{chain(impl.MaxDepth), 9, []impl.Node{scan("a")}, true},
		{chain(impl.MaxDepth), 9, chain(2), false},
		{append([]impl.Node{both(), scan("a")}, chain(9)...), 1, chain(9), true},
		{append([]impl.Node{both(), scan("a")}, chain(9)...), 1, chain(10), false},
	} {
		got, ok := impl.PutPart(c.p, c.k, c.part)
		want := c.p
		if c.ok {
			want = slices.Concat(c.p[:c.k], c.part, c.p[wantEnd(c.p, c.k):])
		}
		if ok != c.ok || !sameNodes(got, want) {
			t.Errorf("PutPart of %d nodes at %d of %d = %v, %v", len(c.part), c.k, len(c.p), got, ok)
		}
	}
}

// spoil writes over all that a list of nodes has, and over the room behind it.
func spoil(p []impl.Node) {
	for i := range p {
		for j := range p[i].Cols {
			p[i].Cols[j] = 99
		}
		_ = append(p[i].Cols, 98)
		p[i] = impl.Node{Kind: 99}
	}
	_ = append(p, impl.Node{Kind: 98})
}

func TestPlanAnswersAreNewMemory(t *testing.T) {
	p := []impl.Node{joinOn(0, 0), keep(1, 2), scan("t1"), keep(3), scan("t2")}
	part := []impl.Node{keep(4, 5), scan("t3")}
	keptPlan, keptPart := deepCopy(p), deepCopy(part)
	bad := []impl.Node{keep(1, 2), scan("t1"), keep(3)}
	keptBad := deepCopy(bad)
	for k := range p {
		spoil(impl.PartOf(p, k))
		put, _ := impl.PutPart(p, k, part)
		spoil(put)
		put, _ = impl.PutPart(p, k, impl.PartOf(p, k))
		spoil(put)
	}
	for _, k := range noNodes(p) {
		put, _ := impl.PutPart(p, k, part)
		spoil(put)
	}
	put, _ := impl.PutPart(p, 1, bad)
	spoil(put)
	put, _ = impl.PutPart(p, 2, chain(9))
	spoil(put)
	put, _ = impl.PutPart(bad, 0, part)
	spoil(put)
	impl.TablesOf(p)
	if !sameNodes(p, keptPlan) || !sameNodes(part, keptPart) || !sameNodes(bad, keptBad) {
		t.Error("an answer shares memory with an argument")
	}
	// One node's Cols stand twice in what is put: they must not be one list.
	twice, _ := impl.PutPart([]impl.Node{both(), keep(1), scan("a"), scan("b")}, 3, []impl.Node{keep(1), scan("a")})
	same := []impl.Node{both(), part[0], scan("a"), part[0], scan("b")}
	got := impl.PartOf(same, 0)
	twice[1].Cols[0], got[1].Cols[0] = 9, 9
	if twice[3].Cols[0] != 1 || got[3].Cols[0] != 4 {
		t.Error("two lists of one answer share memory")
	}
}

func TestPlanArgumentsStay(t *testing.T) {
	room := make([]impl.Node, 3, 20)
	copy(room, []impl.Node{once(), keep(2, 1), scan("t1")})
	part := append(make([]impl.Node, 0, 20), keep(7), scan("t9"))
	for k := -1; k <= len(room); k++ {
		impl.PutPart(room, k, part)
		impl.PartOf(room, k)
		impl.ChildrenOf(room, k)
		impl.EndOf(room, k)
	}
	impl.TablesOf(room)
	impl.DepthOf(room)
	if !sameNodes(room, []impl.Node{once(), keep(2, 1), scan("t1")}) || !sameNodes(part, []impl.Node{keep(7), scan("t9")}) {
		t.Error("something is written into an argument")
	}
	if !sameNodes(room[:20][3:], make([]impl.Node, 17)) || !sameNodes(part[:20][2:], make([]impl.Node, 18)) {
		t.Error("something is written behind an argument")
	}
}
