package tests

import (
	"maps"
	"math"
	"slices"
	"strconv"
	"strings"
	"testing"

	"loop.example/g00844/impl"
)

// wantChanged is the text of a plan, with what change makes of each word that has a literal or a slot.
func wantChanged(p []impl.Node, change func(string) string) string {
	var texts []string
	for _, n := range p {
		words := strings.Split(impl.NodeText(n), " ")
		last := len(words) - 1
		if words[0] == "limit" || words[0] == "filter" && words[last] != "none" {
			words[last] = change(words[last])
		}
		texts = append(texts, strings.Join(words, " "))
	}
	return strings.Join(texts, " ")
}

// literalWords are the words of a plan's literals and slots, as `5` and `$5`.
func literalWords(p []impl.Node) []string {
	var words []string
	wantChanged(p, func(word string) string {
		words = append(words, word)
		return word
	})
	return words
}

func number(digits string) int {
	x, err := strconv.Atoi(digits)
	if err != nil {
		panic(err)
	}
	return x
}

func wantLiterals(p []impl.Node) []int {
	var list []int
	for _, word := range literalWords(p) {
		if word[0] != '$' {
			list = append(list, number(word))
		}
	}
	return list
}

func wantSlots(p []impl.Node) []int {
	has := map[int]bool{}
	for _, word := range literalWords(p) {
		if word[0] == '$' {
			has[number(word[1:])] = true
		}
	}
	return slices.Sorted(maps.Keys(has))
}

func wantLifted(p []impl.Node) string {
	count := -1
	return wantChanged(p, func(string) string {
		count++
		return "$" + strconv.Itoa(count)
	})
}

// wantFilled is read from a text: a value that may not stand there makes it no plan's.
func wantFilled(p []impl.Node, values []int) ([]impl.Node, bool) {
	filled, wrong := impl.ParsePlan(wantChanged(p, func(word string) string {
		digits, slot := strings.CutPrefix(word, "$")
		if !slot {
			return word
		}
		if number(digits) >= len(values) {
			return "missing"
		}
		return strconv.Itoa(values[number(digits)])
	}))
	return filled, wrong == -1
}

func wantRenumbered(p []impl.Node) string {
	names := map[string]string{}
	return wantChanged(p, func(word string) string {
		if word[0] != '$' {
			return word
		}
		if names[word] == "" {
			names[word] = "$" + strconv.Itoa(len(names))
		}
		return names[word]
	})
}

// wantPrint goes from the last byte to the first one, with the power of 31 that each has in the sum.
func wantPrint(p []impl.Node) int {
	sum, power := 0, 1
	for _, c := range slices.Backward(framed(written(planPieces(p)))) {
		sum += power * int(c) % 251
		power = power * 31 % 251
	}
	return (sum + 97*power) % 251
}

// manyLiterals has 31 of them, in filters and limits, which is as many as can be, and slots when that is asked.
func manyLiterals(slots bool) []impl.Node {
	count := 0
	part := func(length int) []impl.Node {
		var p []impl.Node
		for range length {
			n := filter(count%2, count%3, count-7)
			if count%4 == 3 {
				n = limit(count)
			}
			if slots {
				n.Num, n.Slot = (count*7+3)%impl.MaxNodes, true
			}
			p = append(p, n)
			count++
		}
		return append(p, scan("t1"))
	}
	left := over(both(), over(both(), part(6), part(6)), part(6))
	return over(both(), left, over(joinOn(0, 0), part(6), part(7)))
}

// mostLiterals is how many a plan can have, reckoned from the plans that are less deep.
func mostLiterals() int {
	// By the number of nodes; below 0 where there is no plan of so many.
	most := slices.Repeat([]int{-1000}, impl.MaxNodes+1)
	for range impl.MaxDepth {
		lower := slices.Clone(most)
		most[1] = 0
		for nodes := 2; nodes <= impl.MaxNodes; nodes++ {
			most[nodes] = 1 + lower[nodes-1]
			for left := 1; left < nodes-1; left++ {
				most[nodes] = max(most[nodes], lower[left]+lower[nodes-1-left])
			}
		}
	}
	return slices.Max(most)
}

// valueLists are values for a plan's slots: as few and as many, of numbers that may stand there and of others.
func valueLists(p []impl.Node) [][]int {
	wanted := 0
	for _, slot := range wantSlots(p) {
		wanted = max(wanted, slot+1)
	}
	lists := [][]int{nil, {}}
	for _, x := range []int{0, 1, -1, impl.MaxNum, impl.MaxNum + 1, -impl.MaxNum, -impl.MaxNum - 1} {
		lists = append(lists, slices.Repeat([]int{x}, wanted))
	}
	rising := make([]int, wanted+3)
	for i := range rising {
		rising[i] = i * 1000
	}
	return append(lists, rising[:wanted], rising[:max(wanted-1, 0)], rising[:wanted+1], rising)
}

func sameFilled(t *testing.T, p []impl.Node, values []int) {
	t.Helper()
	want, ok := wantFilled(p, values)
	got, fine := impl.Fill(p, values)
	if fine != ok || !sameNodes(got, want) {
		t.Errorf("Fill(%v, %v) = %v, %v, want %v, %v", p, values, got, fine, want, ok)
	}
}

// holdsSlots holds all that the chapter says of one plan against the second reckoning.
func holdsSlots(t *testing.T, p []impl.Node) {
	t.Helper()
	literals, slots := wantLiterals(p), wantSlots(p)
	if got := impl.LiteralsOf(p); !slices.Equal(got, literals) {
		t.Errorf("LiteralsOf(%v) = %v, want %v", p, got, literals)
	}
	if got := impl.SlotsOf(p); !slices.Equal(got, slots) {
		t.Errorf("SlotsOf(%v) = %v, want %v", p, got, slots)
	}
	if got := impl.Closed(p); got != (len(slots) == 0) {
		t.Errorf("Closed(%v) = %v", p, got)
	}
	greatest := -1
	if len(slots) > 0 {
		greatest = slots[len(slots)-1]
	}
	for _, n := range []int{math.MinInt, -1, 0, 1, greatest - 1, greatest, greatest + 1, greatest + 2, impl.MaxNodes, math.MaxInt} {
		if got := impl.SlotsOk(p, n); got != (len(slots) == 0 || greatest < n) {
			t.Errorf("SlotsOk(%v, %d) = %v", p, n, got)
		}
	}
	if got := impl.PrintOf(p); got != wantPrint(p) {
		t.Errorf("PrintOf(%v) = %d, want %d", p, got, wantPrint(p))
	}
	for _, values := range valueLists(p) {
		sameFilled(t, p, values)
	}
	holdsRenumber(t, p)
	holdsLift(t, p)
}

func holdsRenumber(t *testing.T, p []impl.Node) {
	t.Helper()
	got, ok := impl.Renumber(p)
	if text := impl.PrintPlan(got); !ok || text != wantRenumbered(p) {
		t.Errorf("Renumber(%v) = %q, %v, want %q", p, text, ok, wantRenumbered(p))
	}
	again, ok := impl.Renumber(got)
	if !ok || !sameNodes(again, got) {
		t.Errorf("Renumber of %v = %v, %v", got, again, ok)
	}
	for i, slot := range impl.SlotsOf(got) {
		if slot != i {
			t.Errorf("Renumber(%v) has the slots %v", p, impl.SlotsOf(got))
		}
	}
	if before, after := impl.SlotsOf(p), impl.SlotsOf(got); len(before) != len(after) || !slices.Equal(impl.LiteralsOf(p), impl.LiteralsOf(got)) {
		t.Errorf("Renumber(%v) = %v has other literals or slots", p, got)
	}
}

// Promise 7, where p has no slots.
func holdsLift(t *testing.T, p []impl.Node) {
	t.Helper()
	template, values, ok := impl.Lift(p)
	if len(wantSlots(p)) > 0 {
		if ok || len(template) != 0 || len(values) != 0 {
			t.Errorf("%v has a slot: Lift = %v, %v, %v", p, template, values, ok)
		}
		if impl.SameTemplate(p, p) {
			t.Errorf("%v has a slot: SameTemplate is true", p)
		}
		return
	}
	if text := impl.PrintPlan(template); !ok || text != wantLifted(p) || !slices.Equal(values, wantLiterals(p)) {
		t.Errorf("Lift(%v) = %q, %v, %v", p, text, values, ok)
	}
	if back, ok := impl.Fill(template, values); !ok || !sameNodes(back, p) {
		t.Errorf("Fill of Lift(%v) = %v, %v", p, back, ok)
	}
	if len(impl.LiteralsOf(template)) != 0 || !impl.SlotsOk(template, len(values)) || impl.SlotsOk(template, len(values)-1) != (len(values) == 0) {
		t.Errorf("Lift(%v) has the slots %v", p, impl.SlotsOf(template))
	}
	if again, ok := impl.Renumber(template); !ok || !sameNodes(again, template) {
		t.Errorf("the template of %v is numbered anew as %v, %v", p, again, ok)
	}
	other := slices.Clone(values)
	for i := range other {
		other[i] = i*17 + 5
	}
	filled, ok := impl.Fill(template, other)
	if !ok || !slices.Equal(impl.LiteralsOf(filled), other) || !impl.SameTemplate(p, filled) || !impl.SameTemplate(filled, p) {
		t.Errorf("Lift(%v), filled with %v = %v, %v", p, other, filled, ok)
	}
	sameFilled(t, template, other)
}

// Promise 7.
func TestWhatIsLiftedAndFilledIsThePlan(t *testing.T) {
	plans := append(ordinaryPlans(), longWords(), manyLiterals(false), manyLiterals(true))
	for _, n := range everyNode() {
		plans = append(plans, over(n, slices.Repeat([][]impl.Node{{scan("t1")}}, wantArity(n.Kind))...))
	}
	for _, p := range plans {
		holdsSlots(t, p)
	}
}

func TestSlotsOfEveryShortPlan(t *testing.T) {
	nodes := []impl.Node{scan("t1"), filter(0, impl.OpNone, 0), filter(1, impl.OpLess, -1), asSlot(filter(1, impl.OpSame, 2)), asSlot(filter(0, impl.OpMore, 0)), keep(1, 0), joinOn(0, 1), sortBy(2), limit(3), asSlot(limit(2)), asSlot(limit(39))}
	plans := everyPlan(nodes, 4)
	for _, p := range plans {
		holdsSlots(t, p)
	}
	closed := 0
	for _, p := range plans {
		if impl.Closed(p) {
			closed++
		}
	}
	if closed < 150 || closed > len(plans)-150 {
		t.Errorf("%d of %d plans are closed", closed, len(plans))
	}
}

func isLifted(t *testing.T, text string, template string, values ...int) {
	t.Helper()
	p, _ := impl.ParsePlan(text)
	got, nums, ok := impl.Lift(p)
	if !ok || impl.PrintPlan(got) != template || !slices.Equal(nums, values) {
		t.Errorf("Lift of %q = %q, %v, %v, want %q, %v", text, impl.PrintPlan(got), nums, ok, template, values)
	}
	if got := impl.LiteralsOf(p); !slices.Equal(got, values) {
		t.Errorf("LiteralsOf %q = %v, want %v", text, got, values)
	}
	if back, ok := impl.Fill(got, values); !ok || impl.PrintPlan(back) != text {
		t.Errorf("%q is filled as %q, %v, want %q", template, impl.PrintPlan(back), ok, text)
	}
}

func TestLift(t *testing.T) {
	isLifted(t, "scan t1", "scan t1")
	isLifted(t, "filter 3 = 5 scan t1", "filter 3 = $0 scan t1", 5)
	isLifted(t, "filter 3 < -5 scan t1", "filter 3 < $0 scan t1", -5)
	isLifted(t, "filter 3 > 0 scan t1", "filter 3 > $0 scan t1", 0)
	isLifted(t, "filter 3 none scan t1", "filter 3 none scan t1")
	isLifted(t, "limit 0 scan t1", "limit $0 scan t1", 0)
	isLifted(t, "limit 1000000 filter 0 = -1000000 scan t1", "limit $0 filter 0 = $1 scan t1", 1000000, -1000000)
	// Numbers of other nodes are none, and equal ones are lifted apart.
	isLifted(t, "join 4 5 sort 6 scan t1 keep 2 7 8 once scan t2", "join 4 5 sort 6 scan t1 keep 2 7 8 once scan t2")
	isLifted(t, "both limit 7 filter 7 = 7 scan t1 limit 7 filter 7 none scan t2", "both limit $0 filter 7 = $1 scan t1 limit $2 filter 7 none scan t2", 7, 7, 7)
	isLifted(t, "both both limit 1 scan a limit 2 scan b both limit 3 scan c filter 0 < 4 scan d", "both both limit $0 scan a limit $1 scan b both limit $2 scan c filter 0 < $3 scan d", 1, 2, 3, 4)
	for _, text := range []string{"limit $0 scan t1", "filter 0 = $0 scan t1", "filter 0 > $39 scan t1", "limit 1 filter 0 = 2 limit $5 scan t1", "limit $0 filter 0 = 2 scan t1", "both limit 1 scan a limit $1 scan b"} {
		p, _ := impl.ParsePlan(text)
		if got, values, ok := impl.Lift(p); ok || len(got) != 0 || len(values) != 0 || impl.Closed(p) || !impl.PlanOk(p) {
			t.Errorf("Lift of %q = %v, %v, %v", text, got, values, ok)
		}
	}
}

func TestAsManyLiteralsAsCanBe(t *testing.T) {
	most := mostLiterals()
	p := manyLiterals(false)
	template, values, ok := impl.Lift(p)
	if !ok || len(values) != most || most != 31 || !slices.Equal(values, wantLiterals(p)) {
		t.Errorf("%d literals, want %d: %v, %v", len(values), most, values, ok)
	}
	slots := impl.SlotsOf(template)
	for i := range most {
		if len(slots) != most || slots[i] != i {
			t.Fatalf("the slots are %v", slots)
		}
	}
	if back, ok := impl.Fill(template, values); !ok || !sameNodes(back, p) {
		t.Errorf("Fill = %v, %v", back, ok)
	}
	if _, ok := impl.Fill(template, values[:most-1]); ok {
		t.Error("Fill with one value too few")
	}
}

func TestLiteralsBesideSlots(t *testing.T) {
	for text, want := range map[string][2][]int{
		"limit $3 filter 0 = 7 scan t1":                                      {{7}, {3}},
		"limit 3 filter 0 = $7 scan t1":                                      {{3}, {7}},
		"limit $5 filter 0 = $5 filter 1 < 5 scan t1":                        {{5}, {5}},
		"limit $9 limit $0 limit $39 limit $0 limit 2 limit $9 scan t1":      {{2}, {0, 9, 39}},
		"both filter 0 > $2 scan a both limit 4 scan b filter 0 < $1 scan c": {{4}, {1, 2}},
		"filter 9 none limit $0 scan t1":                                     {nil, {0}},
		"keep 1 5 sort 6 scan t1":                                            {nil, nil},
	} {
		p, wrong := impl.ParsePlan(text)
		literals, slots := impl.LiteralsOf(p), impl.SlotsOf(p)
		if wrong != -1 || !slices.Equal(literals, want[0]) || !slices.Equal(slots, want[1]) {
			t.Errorf("%q has the literals %v and the slots %v", text, literals, slots)
		}
		holdsSlots(t, p)
	}
}

func isFilled(t *testing.T, text string, want string, values ...int) {
	t.Helper()
	p, wrong := impl.ParsePlan(text)
	got, ok := impl.Fill(p, values)
	if wrong != -1 || impl.PrintPlan(got) != want || ok != (want != "") || len(got) != 0 && want == "" {
		t.Errorf("Fill of %q with %v = %v, %v, want %q", text, values, got, ok, want)
	}
}

func TestFillWithFewerAndMoreValues(t *testing.T) {
	text := "limit $2 filter 0 = $0 filter 1 < 4 scan t1"
	isFilled(t, text, "")
	isFilled(t, text, "", 5)
	isFilled(t, text, "", 5, 6)
	isFilled(t, text, "limit 7 filter 0 = 5 filter 1 < 4 scan t1", 5, 6, 7)
	isFilled(t, text, "limit 7 filter 0 = 5 filter 1 < 4 scan t1", 5, 6, 7, 8)
	isFilled(t, text, "limit 7 filter 0 = 5 filter 1 < 4 scan t1", append([]int{5, 6, 7}, make([]int, 5000)...)...)
	isFilled(t, "limit $39 scan t1", "", make([]int, 39)...)
	isFilled(t, "limit $39 scan t1", "limit 0 scan t1", make([]int, 40)...)
	isFilled(t, "limit $0 scan t1", "")
	// No value is wanted.
	isFilled(t, "limit 3 scan t1", "limit 3 scan t1")
	isFilled(t, "limit 3 scan t1", "limit 3 scan t1", 9)
	isFilled(t, "filter 0 none scan t1", "filter 0 none scan t1", 9)
	isFilled(t, "scan t1", "scan t1", math.MinInt)
	// One number in several places.
	isFilled(t, "both limit $1 filter 0 = $0 scan a filter 3 > $1 limit $0 scan b", "both limit 8 filter 0 = 9 scan a filter 3 > 8 limit 9 scan b", 9, 8)
	isFilled(t, "both limit $0 scan a filter 3 > $0 scan b", "", -1)
	isFilled(t, "both filter 3 > $0 scan a limit $0 scan b", "", -1)
}

func TestFillToTheEndsOfANum(t *testing.T) {
	for text, least := range map[string]int{"filter 0 = # scan t1": -impl.MaxNum, "filter 5 < # scan t1": -impl.MaxNum, "once filter 63 > # scan t1": -impl.MaxNum, "limit # scan t1": 0, "sort 1 limit # limit 4 scan t1": 0} {
		for _, x := range []int{math.MinInt, -impl.MaxNum - 2, -impl.MaxNum - 1, -impl.MaxNum, -impl.MaxNum + 1, -impl.MaxNodes, -2, -1, 0, 1, 39, 40, 41, impl.MaxNum - 1, impl.MaxNum, impl.MaxNum + 1, impl.MaxNum + 2, math.MaxInt} {
			want := ""
			if least <= x && x <= impl.MaxNum {
				want = strings.Replace(text, "#", strconv.Itoa(x), 1)
			}
			isFilled(t, strings.Replace(text, "#", "$0", 1), want, x)
			isFilled(t, strings.Replace(text, "#", "$2", 1), want, 4, 5, x, 6)
		}
	}
}

// A value that no slot wants may be what could stand nowhere.
func TestFillWithValuesThatNobodyWants(t *testing.T) {
	for _, x := range []int{math.MinInt, -impl.MaxNum - 1, -1, impl.MaxNum + 1, math.MaxInt} {
		isFilled(t, "limit $1 scan t1", "limit 4 scan t1", x, 4)
		isFilled(t, "limit $1 scan t1", "limit 4 scan t1", x, 4, x)
		isFilled(t, "filter 0 = $0 scan t1", "filter 0 = 4 scan t1", 4, x)
		isFilled(t, "limit 3 scan t1", "limit 3 scan t1", x)
		isFilled(t, "filter 0 none scan t1", "filter 0 none scan t1", x, x)
	}
}

func TestSlotsOk(t *testing.T) {
	for text, greatest := range map[string]int{
		"limit $0 scan t1": 0, "filter 0 = $1 scan t1": 1, "filter 0 < $39 scan t1": 39, "limit $39 limit $0 scan t1": 39, "limit $0 limit $5 limit $3 scan t1": 5, "both limit 1000 scan a limit $7 scan b": 7, "limit $2 limit $2 scan t1": 2,
	} {
		p, _ := impl.ParsePlan(text)
		for n, want := range map[int]bool{math.MinInt: false, -1: false, 0: false, greatest: false, greatest + 1: true, greatest + 2: true, impl.MaxNodes: true, math.MaxInt: true} {
			if got := impl.SlotsOk(p, n); got != want {
				t.Errorf("SlotsOk of %q, %d = %v", text, n, got)
			}
		}
		if impl.Closed(p) {
			t.Errorf("%q is closed", text)
		}
	}
	for _, text := range []string{"scan t1", "limit 3 scan t1", "filter 0 = 1000000 scan t1", "filter 0 none scan t1"} {
		p, _ := impl.ParsePlan(text)
		for _, n := range []int{math.MinInt, -1, 0, 1, math.MaxInt} {
			if !impl.SlotsOk(p, n) {
				t.Errorf("SlotsOk of %q, %d is false", text, n)
			}
		}
		if !impl.Closed(p) {
			t.Errorf("%q is not closed", text)
		}
	}
}

func TestRenumber(t *testing.T) {
	for text, want := range map[string]string{
		"scan t1":          "scan t1",
		"limit 39 scan t1": "limit 39 scan t1", "filter 5 = 7 filter 4 none scan t1": "filter 5 = 7 filter 4 none scan t1",
		"limit $0 scan t1": "limit $0 scan t1", "limit $1 scan t1": "limit $0 scan t1", "limit $39 scan t1": "limit $0 scan t1", "filter 5 < $39 scan t1": "filter 5 < $0 scan t1",
		"limit $1 limit $0 scan t1": "limit $0 limit $1 scan t1", "limit $0 limit $1 scan t1": "limit $0 limit $1 scan t1", "limit $7 limit $7 scan t1": "limit $0 limit $0 scan t1",
		"limit $2 limit $0 limit $1 scan t1":                                                 "limit $0 limit $1 limit $2 scan t1",
		"limit $1 limit $2 limit $0 limit $1 scan t1":                                        "limit $0 limit $1 limit $2 limit $0 scan t1",
		"limit $3 filter 0 = 3 filter 1 > $3 limit $0 limit 0 scan t1":                       "limit $0 filter 0 = 3 filter 1 > $0 limit $1 limit 0 scan t1",
		"join 3 4 filter 5 = $5 scan a both limit $4 sort 4 scan b limit $5 keep 1 5 scan c": "join 3 4 filter 5 = $0 scan a both limit $1 sort 4 scan b limit $0 keep 1 5 scan c",
	} {
		p, wrong := impl.ParsePlan(text)
		got, ok := impl.Renumber(p)
		if wrong != -1 || !ok || impl.PrintPlan(got) != want {
			t.Errorf("Renumber of %q = %q, %v, want %q", text, impl.PrintPlan(got), ok, want)
		}
	}
	got, ok := impl.Renumber(manyLiterals(true))
	if slots := impl.SlotsOf(got); !ok || len(slots) != 31 || slots[0] != 0 || slots[30] != 30 || !slices.IsSorted(slotsAsTheyStand(got)) {
		t.Errorf("Renumber of as many slots as can be = %v, %v", got, ok)
	}
}

func slotsAsTheyStand(p []impl.Node) []int {
	var nums []int
	for _, n := range p {
		if n.Slot {
			nums = append(nums, n.Num)
		}
	}
	return nums
}
