package tests

import (
	"maps"
	"math"
	"slices"
	"strings"
	"testing"

	"loop.example/g00844/impl"
)

func TestPrintOf(t *testing.T) {
	for text, want := range map[string]int{
		"scan t1": 75, "scan a": 169, "filter 0 = $0 scan t1": 205, "filter 3 > 5 scan t1": 118, "filter 0 none scan t1": 132, "keep 2 1 0 scan t1": 130,
		"join 0 1 scan t1 scan t2": 221, "both scan t1 scan t1": 213, "sort 63 scan t1": 21, "limit $39 scan t1": 26, "limit 1000000 scan t1": 15, "once scan t1": 240,
		"limit $0 filter 0 = $1 filter 1 none scan t1": 7,
		// Different templates, one print.
		"filter 2 = $0 scan t1": 222, "filter 2 < $0 scan t1": 222, "sort 2 scan t1": 57, "sort 1 scan t2": 57, "sort 3 scan t1": 35, "filter 3 = $0 scan t5": 35,
	} {
		p, wrong := impl.ParsePlan(text)
		if got := impl.PrintOf(p); wrong != -1 || got != want {
			t.Errorf("PrintOf %q = %d, want %d", text, got, want)
		}
	}
}

// Each number from 0 to 250 is a print, and none beyond.
func TestPrintsOfManyPlans(t *testing.T) {
	count := map[int]int{}
	for _, n := range everyNode() {
		p := over(n, slices.Repeat([][]impl.Node{{scan("t1")}}, wantArity(n.Kind))...)
		got := impl.PrintOf(p)
		if got != wantPrint(p) {
			t.Errorf("PrintOf(%v) = %d, want %d", p, got, wantPrint(p))
		}
		count[got]++
	}
	prints := slices.Sorted(maps.Keys(count))
	if len(prints) != 251 || prints[0] != 0 || prints[250] != 250 {
		t.Errorf("the prints are %v", prints)
	}
}

func parsed(texts ...string) [][]impl.Node {
	var plans [][]impl.Node
	for _, text := range texts {
		p, wrong := impl.ParsePlan(text)
		if wrong != -1 {
			panic(text)
		}
		plans = append(plans, p)
	}
	return plans
}

func TestSameTemplate(t *testing.T) {
	// Those of one list have one template, those of different ones have not.
	groups := [][][]impl.Node{
		parsed("scan t1"), parsed("scan t2"), parsed("once scan t1"),
		parsed("limit 3 scan t1", "limit 0 scan t1", "limit 1000000 scan t1"), parsed("limit 3 scan t2"), parsed("limit 3 limit 3 scan t1", "limit 3 limit 4 scan t1"), parsed("limit 3 once scan t1"), parsed("once limit 3 scan t1"),
		parsed("filter 0 = 5 scan t1", "filter 0 = -5 scan t1", "filter 0 = 0 scan t1"), parsed("filter 0 < 5 scan t1", "filter 0 < 0 scan t1"), parsed("filter 0 > 5 scan t1"), parsed("filter 1 = 5 scan t1"), parsed("filter 0 none scan t1"), parsed("filter 1 none scan t1"),
		parsed("sort 1 scan t1"), parsed("sort 2 scan t1"), parsed("keep 1 1 scan t1"), parsed("keep 1 2 scan t1"), parsed("keep 2 1 2 scan t1"),
		parsed("join 0 1 scan t1 scan t2"), parsed("join 0 2 scan t1 scan t2"), parsed("join 1 1 scan t1 scan t2"), parsed("join 0 1 scan t2 scan t1"), parsed("both scan t1 scan t2"),
		parsed("both limit 1 scan t1 limit 2 scan t1", "both limit 2 scan t1 limit 2 scan t1", "both limit 2 scan t1 limit 1 scan t1"), parsed("both limit 1 limit 2 scan t1 scan t1"), parsed("both scan t1 limit 1 limit 2 scan t1"),
		parsed("limit 1 filter 0 = 2 scan t1", "limit 2 filter 0 = 1 scan t1"), parsed("filter 0 = 2 limit 1 scan t1"),
	}
	for i, group := range groups {
		for _, a := range group {
			for j, others := range groups {
				for _, b := range others {
					if got := impl.SameTemplate(a, b); got != (i == j) {
						t.Errorf("SameTemplate(%v, %v) = %v", a, b, got)
					}
				}
			}
		}
	}
}

func TestSameTemplateOfSlots(t *testing.T) {
	plans := parsed("limit $0 scan t1", "limit 0 scan t1", "limit $1 scan t1", "filter 0 = $0 scan t1", "filter 0 = 0 scan t1", "limit $0 limit 1 scan t1", "limit 0 limit 1 scan t1", "limit 0 limit $1 scan t1", "limit $0 limit $1 scan t1", "scan t1")
	for i, a := range plans {
		for j, b := range plans {
			want := i == j && !strings.Contains(impl.PrintPlan(a), "$")
			if got := impl.SameTemplate(a, b); got != want {
				t.Errorf("SameTemplate(%v, %v) = %v", a, b, got)
			}
		}
	}
}

// wantTemplate is the text of a plan without its numbers; it is empty when there is a slot.
func wantTemplate(p []impl.Node) string {
	text := wantChanged(p, func(word string) string {
		if word[0] == '$' {
			return "$"
		}
		return "#"
	})
	if strings.Contains(text, "$") {
		return ""
	}
	return text
}

func TestSameTemplateOfEveryTwoShortPlans(t *testing.T) {
	plans := everyPlan([]impl.Node{scan("t1"), filter(0, impl.OpNone, 0), filter(0, impl.OpSame, 0), filter(0, impl.OpSame, 7), asSlot(filter(0, impl.OpSame, 0)), filter(0, impl.OpMore, 7), both(), limit(0), limit(7), asSlot(limit(0))}, 3)
	same := 0
	for _, a := range plans {
		for _, b := range plans {
			want := wantTemplate(a) != "" && wantTemplate(a) == wantTemplate(b)
			if got := impl.SameTemplate(a, b); got != want {
				t.Errorf("SameTemplate(%v, %v) = %v", a, b, got)
			}
			if want {
				same++
			}
		}
	}
	if same != 112 || len(plans) != 74 {
		t.Errorf("%d pairs of %d plans have the same template", same, len(plans))
	}
}

// hasNoSlots asks every function of the chapter for its answer to what is no plan.
func hasNoSlots(t *testing.T, name string, p []impl.Node) {
	t.Helper()
	template, values, lifted := impl.Lift(p)
	if lifted || len(template) != 0 || len(values) != 0 {
		t.Errorf("%s: Lift = %v, %v, %v", name, template, values, lifted)
	}
	for _, values := range [][]int{nil, {}, {1}, make([]int, impl.MaxNodes)} {
		if got, ok := impl.Fill(p, values); ok || len(got) != 0 {
			t.Errorf("%s: Fill with %v = %v, %v", name, values, got, ok)
		}
	}
	if got, ok := impl.Renumber(p); ok || len(got) != 0 {
		t.Errorf("%s: Renumber = %v, %v", name, got, ok)
	}
	if len(impl.LiteralsOf(p)) != 0 || len(impl.SlotsOf(p)) != 0 || impl.Closed(p) || impl.PrintOf(p) != -1 {
		t.Errorf("%s: LiteralsOf %v, SlotsOf %v, Closed %v, PrintOf %d", name, impl.LiteralsOf(p), impl.SlotsOf(p), impl.Closed(p), impl.PrintOf(p))
	}
	for _, n := range []int{math.MinInt, -1, 0, 1, impl.MaxNodes, math.MaxInt} {
		if impl.SlotsOk(p, n) {
			t.Errorf("%s: SlotsOk with %d", name, n)
		}
	}
	for _, other := range [][]impl.Node{p, nil, {scan("t1")}, {limit(1), scan("t1")}, {asSlot(limit(1)), scan("t1")}} {
		if impl.SameTemplate(p, other) || impl.SameTemplate(other, p) {
			t.Errorf("%s: SameTemplate with %v", name, other)
		}
	}
}

func TestNoPlanHasSlots(t *testing.T) {
	for name, p := range noPlans() {
		hasNoSlots(t, name, p)
		hasNoSlots(t, name+" below a limit", over(limit(3), p))
		hasNoSlots(t, name+" below a slot", over(asSlot(filter(0, impl.OpLess, 3)), p))
	}
	for _, n := range unfitNodes() {
		for _, p := range [][]impl.Node{{n}, {n, scan("a")}, {n, scan("a"), scan("b")}, {limit(3), n, scan("a")}, {asSlot(limit(3)), n}, {both(), limit(3), scan("a"), n}} {
			hasNoSlots(t, "no node", p)
		}
	}
	// What is no plan is not made one by what is filled in.
	hasNoSlots(t, "a slot of 40", []impl.Node{asSlot(limit(40)), scan("a")})
	hasNoSlots(t, "a limit below 0", []impl.Node{limit(-1), scan("a")})
	hasNoSlots(t, "a slot below 0", []impl.Node{asSlot(filter(0, impl.OpSame, -1)), scan("a")})
	hasNoSlots(t, "a slot for none", []impl.Node{asSlot(filter(0, impl.OpNone, 0)), scan("a")})
	hasNoSlots(t, "a sort with a slot", []impl.Node{asSlot(sortBy(0)), scan("a")})
}

// slotAnswers are the plans that the chapter makes of one.
func slotAnswers(p []impl.Node, values []int) [][]impl.Node {
	template, _, _ := impl.Lift(p)
	filled, _ := impl.Fill(p, values)
	renumbered, _ := impl.Renumber(p)
	return [][]impl.Node{template, filled, renumbered}
}

func TestSlotAnswersAreNewMemory(t *testing.T) {
	cols := []int{1, 0}
	same := impl.Node{Kind: impl.NodeKeep, Cols: cols}
	for _, two := range [][]impl.Node{{once(), sortBy(0)}, {limit(3), filter(0, impl.OpNone, 0)}, {filter(0, impl.OpLess, 1), filter(0, impl.OpSame, 1)}, {limit(2), asSlot(filter(0, impl.OpSame, 1))}, {asSlot(limit(3)), asSlot(limit(3))}} {
		p := append(make([]impl.Node, 0, 20), both(), two[0], same, scan("t1"), two[1], same, scan("t2"))
		values := append(make([]int, 0, 20), 5, 6, 7, 8)
		kept, answers := deepCopy(p), slotAnswers(p, values)
		keptAnswers := [][]impl.Node{deepCopy(answers[0]), deepCopy(answers[1]), deepCopy(answers[2])}
		for i, answer := range answers {
			if len(answer) > 0 {
				answer[2].Cols[0] = 9
				_ = append(answer[2].Cols, 8)
				if answer[5].Cols[0] != 1 {
					t.Errorf("two lists of answer %d share memory", i)
				}
			}
			spoil(answer)
		}
		if !sameNodes(p, kept) || !slices.Equal(cols, []int{1, 0}) || !sameNodes(p[:20][7:], make([]impl.Node, 13)) {
			t.Errorf("an answer shares memory with %v", kept)
		}
		for i, again := range slotAnswers(p, values) {
			if !sameNodes(again, keptAnswers[i]) {
				t.Errorf("answer %d is another one the second time: %v", i, again)
			}
		}
	}
}

func TestSlotNumbersAreNewMemory(t *testing.T) {
	closed := []impl.Node{limit(3), filter(0, impl.OpSame, 4), scan("t1")}
	slotted := []impl.Node{asSlot(limit(3)), limit(1), asSlot(limit(2)), scan("t1")}
	_, first, _ := impl.Lift(closed)
	_, second, _ := impl.Lift(closed)
	literals, slots := impl.LiteralsOf(closed), impl.SlotsOf(slotted)
	clear(second)
	clear(impl.LiteralsOf(closed))
	clear(impl.SlotsOf(slotted))
	if !slices.Equal(first, []int{3, 4}) || !slices.Equal(literals, []int{3, 4}) || !slices.Equal(slots, []int{2, 3}) {
		t.Errorf("two answers share memory: %v, %v, %v", first, literals, slots)
	}
	values := []int{5, 6, 7, 8}
	filled, _ := impl.Fill(slotted, values)
	clear(values)
	if !slices.Equal(impl.LiteralsOf(filled), []int{8, 1, 7}) {
		t.Errorf("what is filled shares memory with the values: %v", filled)
	}
}

func TestSlotArgumentsStay(t *testing.T) {
	plans := append(ordinaryPlans(), slices.Collect(maps.Values(noPlans()))...)
	plans = append(plans, manyLiterals(false), manyLiterals(true))
	plans = append(plans, parsed("limit $3 filter 0 = $1 filter 1 < 4 scan t1", "both keep 1 0 limit $2 scan a limit $1 scan b")...)
	for _, p := range plans {
		room := append(make([]impl.Node, 0, len(p)+4), deepCopy(p)...)
		for _, values := range [][]int{{7, 5, 6, 9}, {7, 5, -6, impl.MaxNum + 1}, slices.Repeat([]int{3}, impl.MaxNodes), {1}} {
			given := append(make([]int, 0, len(values)+4), values...)
			impl.Fill(room, given)
			if !slices.Equal(given, values) || slices.Max(given[:cap(given)][len(values):]) != 0 {
				t.Errorf("Fill(%v, %v) writes into the values: %v", p, values, given)
			}
		}
		impl.LiteralsOf(room)
		impl.Lift(room)
		impl.SlotsOf(room)
		impl.SlotsOk(room, 3)
		impl.Closed(room)
		impl.PrintOf(room)
		impl.SameTemplate(room, room)
		impl.Renumber(room)
		if !sameNodes(room, p) || !sameNodes(room[:len(p)+4][len(p):], make([]impl.Node, 4)) {
			t.Errorf("%v is not as it was", p)
		}
	}
}
