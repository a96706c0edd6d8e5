package tests

import (
	"strings"
	"testing"

	"loop.example/g00844/impl"
)

func TestNodeText(t *testing.T) {
	for _, c := range []struct {
		n    impl.Node
		want string
	}{
		{scan("t1"), "scan t1"}, {scan("scan"), "scan scan"},
		{filter(0, impl.OpSame, 0), "filter 0 = 0"}, {filter(63, impl.OpLess, -7), "filter 63 < -7"}, {filter(1, impl.OpMore, impl.MaxNum), "filter 1 > 1000000"},
		{filter(5, impl.OpNone, 0), "filter 5 none"}, {asSlot(filter(2, impl.OpSame, 39)), "filter 2 = $39"}, {asSlot(filter(2, impl.OpMore, 0)), "filter 2 > $0"},
		{keep(4), "keep 1 4"}, {keep(0, 63, 0, 1, 2, 3), "keep 6 0 63 0 1 2 3"},
		{joinOn(1, 0), "join 1 0"}, {both(), "both"}, {sortBy(10), "sort 10"},
		{limit(0), "limit 0"}, {limit(impl.MaxNum), "limit 1000000"}, {asSlot(limit(7)), "limit $7"}, {once(), "once"},
		{impl.Node{Kind: 8}, ""}, {impl.Node{Kind: -1}, ""}, {scan("T"), ""}, {keep(), ""}, {filter(0, 4, 0), ""}, {filter(0, -1, 0), ""}, {filter(0, impl.OpNone, 1), ""}, {limit(-1), ""}, {asSlot(once()), ""},
	} {
		if got := impl.NodeText(c.n); got != c.want {
			t.Errorf("NodeText(%+v) = %q, want %q", c.n, got, c.want)
		}
	}
}

func TestPrintPlan(t *testing.T) {
	p := []impl.Node{joinOn(0, 0), filter(1, impl.OpMore, 5), scan("t1"), keep(2, 1), scan("t2")}
	if got := impl.PrintPlan(p); got != "join 0 0 filter 1 > 5 scan t1 keep 2 2 1 scan t2" {
		t.Errorf("PrintPlan = %q", got)
	}
	for name, p := range noPlans() {
		if got := impl.PrintPlan(p); got != "" {
			t.Errorf("%s: PrintPlan = %q", name, got)
		}
	}
}

func TestPrintedPlanIsReadAsItWas(t *testing.T) {
	for _, p := range ordinaryPlans() {
		text := impl.PrintPlan(p)
		if got, wrong := impl.ParsePlan(text); wrong != -1 || !sameNodes(got, p) {
			t.Errorf("ParsePlan(%q) = %v, %d", text, got, wrong)
		}
		if got, wrong := impl.ParsePlan("\n " + strings.ReplaceAll(text, " ", " \n\n ") + "  \n"); wrong != -1 || !sameNodes(got, p) {
			t.Errorf("ParsePlan of %q with more blanks = %v, %d", text, got, wrong)
		}
		words := strings.Split(text, " ")
		for i := range words {
			if got, wrong := impl.ParsePlan(strings.Join(words[:i], " ")); len(got) != 0 || wrong != i {
				t.Errorf("ParsePlan of %d words of %q = %v, %d", i, text, got, wrong)
			}
		}
		if got, wrong := impl.ParsePlan(text + " once"); len(got) != 0 || wrong != len(words) {
			t.Errorf("ParsePlan of %q and a word = %v, %d", text, got, wrong)
		}
	}
}

func TestNoPlanText(t *testing.T) {
	for text, want := range map[string]int{
		"": 0, " ": 0, "\n": 0, "t1": 0, "Scan t1": 0, "scan\tt1": 0, "scan\rt1": 0, "scan\x00 t1": 0, "\xff": 0, "= 5": 0, "scans t1": 0, "$1": 0,
		"scan": 1, "scan 1a": 1, "scan T": 1, "scan ä": 1, "scan \xff\xfe": 1, "scan abcdefghijklm": 1, "scan t1 scan t1": 2, "scan t1 x": 2, "scan t1 \xc3": 2,
		"filter": 1, "filter x": 1, "filter $0 = 1 scan t1": 1, "filter 0": 2, "filter 0 == 1 scan t1": 2, "filter 0 x": 2, "filter 0 1 scan t1": 2, "filter 0 None scan t1": 2,
		"filter 0 =": 3, "filter 0 = x scan t1": 3, "filter 0 = $ scan t1": 3, "filter 0 = $-1 scan t1": 3, "filter 0 = $x scan t1": 3, "filter 0 = $$1 scan t1": 3, "filter 0 = $01 scan t1": 3, "filter 0 = $-0 scan t1": 3, "filter 0 = $1000001 scan t1": 3,
		"filter 0 = -0 scan t1": 3, "filter 0 = 00 scan t1": 3, "filter 0 = 01 scan t1": 3, "filter 0 = +1 scan t1": 3, "filter 0 = - scan t1": 3, "filter 0 = 1000001 scan t1": 3, "filter 0 = -1000001 scan t1": 3, "filter 0 = 9999999 scan t1": 3, "filter 0 = 10000000 scan t1": 3, "filter 0 = 99999999999999999999 scan t1": 3, "filter 0 = 1_0 scan t1": 3, "filter 0 = 0x1 scan t1": 3, "filter 0 = --1 scan t1": 3,
		"filter 0 none 0 scan t1": 3, "filter 0 none $0 scan t1": 3, "filter 0 none": 3, "filter 0 = 1": 4, "filter 0 = 1 once t1": 5,
		"keep": 1, "keep x scan t1": 1, "keep 0 scan t1": 1, "keep 7 0 0 0 0 0 0 0 scan t1": 1, "keep -1 scan t1": 1, "keep $1 0 scan t1": 1, "keep 1": 2, "keep 1 x scan t1": 2, "keep 2 0 scan t1": 3, "keep 1 0 0 scan t1": 3, "keep 1 $0 scan t1": 2, "keep 6 0 0 0 0 0": 7,
		"join": 1, "join 0": 2, "join x 0 scan t1 scan t2": 1, "join 0 x scan t1 scan t2": 2, "join $0 0 scan t1 scan t2": 1, "join 0 0 scan t1": 5, "join 0 0 scan t1 0": 5, "both scan t1": 3, "both scan t1 scan t2 scan t3": 5,
		"sort": 1, "sort $0 scan t1": 1, "sort x": 1, "limit": 1, "limit x": 1, "limit $-1 scan t1": 1, "limit 1000001 scan t1": 1, "once once": 2, "once 1": 1,
		// All words can stand there, but the node is not as it is wanted.
		"filter 64 = 1 scan t1": 6, "filter -1 none scan t1": 5, "filter 1000000 = 1 scan t1": 6, "filter 0 = $40 scan t1": 6, "filter 0 = $1000000 scan t1": 6, "keep 1 64 scan t1": 5, "keep 2 0 -1 scan t1": 6,
		"join 64 0 scan t1 scan t2": 7, "join 0 -1 scan t1 scan t2": 7, "sort 64 scan t1": 4, "sort -1 scan t1": 4, "limit -1 scan t1": 4, "limit $40 scan t1": 4,
		// A word that cannot stand there counts ahead of that.
		"filter 64 = 1 scan T": 5, "limit -1 x": 2, "sort 64 scan t1 scan t1": 4,
	} {
		if got, wrong := impl.ParsePlan(text); len(got) != 0 || wrong != want {
			t.Errorf("ParsePlan(%q) = %v, %d, want nothing and %d", text, got, wrong, want)
		}
	}
}

func TestPlanTextToTheLimits(t *testing.T) {
	longest := "scan t1" + strings.Repeat(" ", impl.MaxText-7)
	if got, wrong := impl.ParsePlan(longest); wrong != -1 || len(got) != 1 {
		t.Errorf("a text of MaxText bytes: %v, %d", got, wrong)
	}
	if got, wrong := impl.ParsePlan(longest + " "); wrong != 0 || len(got) != 0 {
		t.Errorf("a text of one byte more: %v, %d", got, wrong)
	}
	for depth, want := range map[int]int{9: -1, 10: -1, 11: 12, 41: 42, 300: 301} {
		text := strings.Repeat("once ", depth-1) + "scan t1"
		if got, wrong := impl.ParsePlan(text); wrong != want || len(got) != 0 && want != -1 {
			t.Errorf("%d deep: %v, %d, want %d", depth, got, wrong, want)
		}
	}
	if _, wrong := impl.ParsePlan(strings.Repeat("once ", 50) + "x"); wrong != 50 {
		t.Errorf("a bad word behind 50 nodes: %d", wrong)
	}
	flat := "scan a"
	for range 5 {
		flat = "both " + flat + " " + flat
	}
	if got, wrong := impl.ParsePlan(flat); wrong != 31+64 || len(got) != 0 {
		t.Errorf("63 nodes: %v, %d", got, wrong)
	}
}
