package tests

import (
	"maps"
	"slices"
	"strings"
	"testing"

	"loop.example/g00844/impl"
)

func TestNodeText(t *testing.T) {
	for _, c := range []struct {
		n    impl.Node
		want string
	}{
		{scan("t1"), "scan t1"}, {scan("scan"), "scan scan"},
		{filter(0, impl.OpSame, 0), "filter 0 = 0"}, {filter(63, impl.OpLess, -7), "filter 63 < -7"}, {filter(1, impl.OpMore, impl.MaxNum), "filter 1 > 1000000"},
		{filter(5, impl.OpNone, 0), "filter 5 none"}, {asSlot(filter(2, impl.OpSame, 39)), "filter 2 = $39"}, {asSlot(filter(2, impl.OpMore, 0)), "filter 2 > $0"},
		{keep(4), "keep 1 4"}, {keep(0, 63, 0, 1, 2, 3), "keep 6 0 63 0 1 2 3"},
		{joinOn(1, 0), "join 1 0"}, {both(), "both"}, {sortBy(10), "sort 10"},
		{limit(0), "limit 0"}, {limit(impl.MaxNum), "limit 1000000"}, {asSlot(limit(7)), "limit $7"}, {once(), "once"},
		{impl.Node{Kind: 8}, ""}, {impl.Node{Kind: -1}, ""}, {scan("T"), ""}, {keep(), ""}, {filter(0, 4, 0), ""}, {filter(0, -1, 0), ""}, {filter(0, impl.OpNone, 1), ""}, {limit(-1), ""}, {asSlot(once()), ""},
	} {
		if got := impl.NodeText(c.n); got != c.want {
			t.Errorf("NodeText(%+v) = %q, want %q", c.n, got, c.want)
		}
	}
}

func TestPrintPlan(t *testing.T) {
	p := []impl.Node{joinOn(0, 0), filter(1, impl.OpMore, 5), scan("t1"), keep(2, 1), scan("t2")}
	if got := impl.PrintPlan(p); got != "join 0 0 filter 1 > 5 scan t1 keep 2 2 1 scan t2" {
		t.Errorf("PrintPlan = %q", got)
	}
	for name, p := range noPlans() {
		if got := impl.PrintPlan(p); got != "" {
			t.Errorf("%s: PrintPlan = %q", name, got)
		}
		if got := impl.PlanLines(p); got != "" {
			t.Errorf("%s: PlanLines = %q", name, got)
		}
	}
}

func TestPrintedPlanIsReadAsItWas(t *testing.T) {
	for _, p := range ordinaryPlans() {
		text := impl.PrintPlan(p)
		if got, wrong := impl.ParsePlan(text); wrong != -1 || !sameNodes(got, p) {
			t.Errorf("ParsePlan(%q) = %v, %d", text, got, wrong)
		}
		if got, wrong := impl.ParsePlan("\n " + strings.ReplaceAll(text, " ", " \n\n ") + "  \n"); wrong != -1 || !sameNodes(got, p) {
			t.Errorf("ParsePlan of %q with more blanks = %v, %d", text, got, wrong)
		}
		words := strings.Split(text, " ")
		for i := range words {
			if got, wrong := impl.ParsePlan(strings.Join(words[:i], " ")); len(got) != 0 || wrong != i {
				t.Errorf("ParsePlan of %d words of %q = %v, %d", i, text, got, wrong)
			}
		}
		if got, wrong := impl.ParsePlan(text + " once"); len(got) != 0 || wrong != len(words) {
			t.Errorf("ParsePlan of %q and a word = %v, %d", text, got, wrong)
		}
	}
}

func TestNoPlanText(t *testing.T) {
	for text, want := range map[string]int{
		"": 0, " ": 0, "\n": 0, "t1": 0, "Scan t1": 0, "scan\tt1": 0, "scan\rt1": 0, "scan\x00 t1": 0, "\xff": 0, "= 5": 0, "scans t1": 0, "$1": 0,
		"scan": 1, "scan 1a": 1, "scan T": 1, "scan ä": 1, "scan \xff\xfe": 1, "scan abcdefghijklm": 1, "scan t1 scan t1": 2, "scan t1 x": 2, "scan t1 \xc3": 2,
		"filter": 1, "filter x": 1, "filter $0 = 1 scan t1": 1, "filter 0": 2, "filter 0 == 1 scan t1": 2, "filter 0 x": 2, "filter 0 1 scan t1": 2, "filter 0 None scan t1": 2,
		"filter 0 =": 3, "filter 0 = x scan t1": 3, "filter 0 = $ scan t1": 3, "filter 0 = $-1 scan t1": 3, "filter 0 = $x scan t1": 3, "filter 0 = $$1 scan t1": 3, "filter 0 = $01 scan t1": 3, "filter 0 = $-0 scan t1": 3, "filter 0 = $1000001 scan t1": 3,
		"filter 0 = -0 scan t1": 3, "filter 0 = 00 scan t1": 3, "filter 0 = 01 scan t1": 3, "filter 0 = +1 scan t1": 3, "filter 0 = - scan t1": 3, "filter 0 = 1000001 scan t1": 3, "filter 0 = -1000001 scan t1": 3, "filter 0 = 9999999 scan t1": 3, "filter 0 = 10000000 scan t1": 3, "filter 0 = 99999999999999999999 scan t1": 3, "filter 0 = 1_0 scan t1": 3, "filter 0 = 0x1 scan t1": 3, "filter 0 = --1 scan t1": 3,
		"filter 0 none 0 scan t1": 3, "filter 0 none $0 scan t1": 3, "filter 0 none": 3, "filter 0 = 1": 4, "filter 0 = 1 once t1": 5,
		"keep": 1, "keep x scan t1": 1, "keep 0 scan t1": 1, "keep 7 0 0 0 0 0 0 0 scan t1": 1, "keep -1 scan t1": 1, "keep $1 0 scan t1": 1, "keep 1": 2, "keep 1 x scan t1": 2, "keep 2 0 scan t1": 3, "keep 1 0 0 scan t1": 3, "keep 1 $0 scan t1": 2, "keep 6 0 0 0 0 0": 7,
		"join": 1, "join 0": 2, "join x 0 scan t1 scan t2": 1, "join 0 x scan t1 scan t2": 2, "join $0 0 scan t1 scan t2": 1, "join 0 0 scan t1": 5, "join 0 0 scan t1 0": 5, "both scan t1": 3, "both scan t1 scan t2 scan t3": 5,
		"sort": 1, "sort $0 scan t1": 1, "sort x": 1, "limit": 1, "limit x": 1, "limit $-1 scan t1": 1, "limit 1000001 scan t1": 1, "once once": 2, "once 1": 1,
		// All words can stand there, but the node is not as it is wanted.
		"filter 64 = 1 scan t1": 6, "filter -1 none scan t1": 5, "filter 1000000 = 1 scan t1": 6, "filter 0 = $40 scan t1": 6, "filter 0 = $1000000 scan t1": 6, "keep 1 64 scan t1": 5, "keep 2 0 -1 scan t1": 6,
		"join 64 0 scan t1 scan t2": 7, "join 0 -1 scan t1 scan t2": 7, "sort 64 scan t1": 4, "sort -1 scan t1": 4, "limit -1 scan t1": 4, "limit $40 scan t1": 4,
		// A word that cannot stand there counts ahead of that.
		"filter 64 = 1 scan T": 5, "limit -1 x": 2, "sort 64 scan t1 scan t1": 4,
	} {
		if got, wrong := impl.ParsePlan(text); len(got) != 0 || wrong != want {
			t.Errorf("ParsePlan(%q) = %v, %d, want nothing and %d", text, got, wrong, want)
		}
		if tidy, ok := impl.TidyPlan(text); ok || tidy != "" || impl.IsPlanText(text) {
			t.Errorf("%q is no plan's: TidyPlan = %q, %v, IsPlanText = %v", text, tidy, ok, impl.IsPlanText(text))
		}
	}
}

func TestPlanTextToTheLimits(t *testing.T) {
	longest := "scan t1" + strings.Repeat(" ", impl.MaxText-7)
	if got, wrong := impl.ParsePlan(longest); wrong != -1 || len(got) != 1 {
		t.Errorf("a text of MaxText bytes: %v, %d", got, wrong)
	}
	if got, wrong := impl.ParsePlan(longest + " "); wrong != 0 || len(got) != 0 {
		t.Errorf("a text of one byte more: %v, %d", got, wrong)
	}
	for depth, want := range map[int]int{9: -1, 10: -1, 11: 12, 41: 42, 300: 301} {
		text := strings.Repeat("once ", depth-1) + "scan t1"
		if got, wrong := impl.ParsePlan(text); wrong != want || len(got) != 0 && want != -1 {
			t.Errorf("%d deep: %v, %d, want %d", depth, got, wrong, want)
		}
	}
	if _, wrong := impl.ParsePlan(strings.Repeat("once ", 50) + "x"); wrong != 50 {
		t.Errorf("a bad word behind 50 nodes: %d", wrong)
	}
	flat := "scan a"
	for range 5 {
		flat = "both " + flat + " " + flat
	}
	if got, wrong := impl.ParsePlan(flat); wrong != 31+64 || len(got) != 0 {
		t.Errorf("63 nodes: %v, %d", got, wrong)
	}
}

// What is too long tells nothing, whatever its words are; bytes count, not runes.
func TestTextOfMaxText(t *testing.T) {
	for _, text := range []string{
		"scan t1", "scan  t1\n", "limit $-1 scan t1", "x", "", "a b", "once scan", "ä",
	} {
		for _, blank := range []string{" ", "\n", " \n"} {
			fill := strings.Repeat(blank, impl.MaxText)
			for _, filled := range []string{text + fill[:impl.MaxText-len(text)], fill[:impl.MaxText-len(text)] + text} {
				readAsText(t, filled)
				if got, want := impl.WordsOf(filled), strings.Fields(text); !slices.Equal(got, want) {
					t.Errorf("%q in MaxText bytes: WordsOf = %q", text, got)
				}
				isTooLong(t, filled+" ")
				isTooLong(t, "\n"+filled)
			}
		}
	}
	for _, words := range []string{strings.Repeat("a ", impl.MaxText/2), strings.Repeat("once\n", impl.MaxText/5), strings.Repeat("x", impl.MaxText), strings.Repeat("ä", impl.MaxText/2), strings.Repeat("\xff", impl.MaxText), "scan t1 " + strings.Repeat("y", impl.MaxText-8)} {
		readAsText(t, words)
		if got := impl.WordsOf(words); !slices.Equal(got, wantWords(words)) || len(got) == 0 {
			t.Errorf("WordsOf of MaxText bytes = %q", got)
		}
		isTooLong(t, words+"a")
		isTooLong(t, words+words)
	}
	if got := len(impl.WordsOf(strings.Repeat("a ", impl.MaxText/2))); got != 1000 {
		t.Errorf("WordsOf has %d words, want 1000", got)
	}
	isTooLong(t, strings.Repeat("ä", impl.MaxText/2+1))
	isTooLong(t, "scan "+strings.Repeat("ä", impl.MaxText/2-2))
	isTooLong(t, strings.Repeat(" ", 1<<20)+"scan t1")
}

func isTooLong(t *testing.T, text string) {
	t.Helper()
	if got, wrong := impl.ParsePlan(text); len(got) != 0 || wrong != 0 {
		t.Errorf("ParsePlan of %d bytes = %v, %d", len(text), got, wrong)
	}
	if got := impl.WordsOf(text); len(got) != 0 {
		t.Errorf("WordsOf of %d bytes = %q", len(text), got)
	}
	if tidy, ok := impl.TidyPlan(text); ok || tidy != "" || impl.IsPlanText(text) {
		t.Errorf("of %d bytes: TidyPlan = %q, %v, IsPlanText = %v", len(text), tidy, ok, impl.IsPlanText(text))
	}
}

func TestWordsOf(t *testing.T) {
	for text, want := range map[string][]string{
		"": nil, " ": nil, "\n": nil, " \n\n  ": nil,
		"a": {"a"}, " a": {"a"}, "a ": {"a"}, "\na\n": {"a"}, "  a \n": {"a"},
		"a b": {"a", "b"}, "a\nb": {"a", "b"}, " a  b ": {"a", "b"}, "a \n b": {"a", "b"}, "a\n\nb": {"a", "b"}, "b a b": {"b", "a", "b"},
		"scan t1 scan": {"scan", "t1", "scan"}, "limit $-1": {"limit", "$-1"}, "A,B ;=": {"A,B", ";="},
		// No other byte parts words, and none is put right.
		"a\tb": {"a\tb"}, "a\rb": {"a\rb"}, "a\r\nb": {"a\r", "b"}, "\t": {"\t"}, "a\vb\fc": {"a\vb\fc"}, "\x00 \x00": {"\x00", "\x00"}, "a\x1fb": {"a\x1fb"},
		"ä ö": {"ä", "ö"}, "a\u00a0b": {"a\u00a0b"}, "a\u0085b": {"a\u0085b"}, "a\u2028b": {"a\u2028b"}, "\u3000": {"\u3000"},
		// Runes that have a 32 or a 10 as their lowest bits.
		"\u0120 \u010a": {"\u0120", "\u010a"}, "a\u2020b\u0a0ac": {"a\u2020b\u0a0ac"}, "\U00010020": {"\U00010020"}, "\u8a20\n\u200a": {"\u8a20", "\u200a"},
		// Bytes that are no rune of their own, cut off by a blank too.
		"\xff": {"\xff"}, "\x80 \x80": {"\x80", "\x80"}, "a\xc3 b": {"a\xc3", "b"}, "\xe2\x80\n\xa8": {"\xe2\x80", "\xa8"}, "\xf0 \x90 \x80": {"\xf0", "\x90", "\x80"}, "\xa0 \x8a": {"\xa0", "\x8a"}, "\xed\xa0\x80 \xc0\xa0": {"\xed\xa0\x80", "\xc0\xa0"}, "\ufffd a": {"\ufffd", "a"},
	} {
		if got := impl.WordsOf(text); !slices.Equal(got, want) {
			t.Errorf("WordsOf(%q) = %q, want %q", text, got, want)
		}
	}
	everyBytes([]byte("a \n\t\xc4\xa0"), 6, func(b []byte) {
		if got, want := impl.WordsOf(string(b)), wantWords(string(b)); !slices.Equal(got, want) {
			t.Fatalf("WordsOf(%q) = %q, want %q", b, got, want)
		}
	})
}

func TestTidyPlan(t *testing.T) {
	for text, want := range map[string]string{
		"scan t1": "scan t1", "scan   t1": "scan t1", "\nscan\nt1\n": "scan t1", "  limit   $3\n\n  scan t1 ": "limit $3 scan t1",
		"join 0 1\n  filter 0 none\n    scan t1\n  keep 2 1 0\n    scan t2\n": "join 0 1 filter 0 none scan t1 keep 2 1 0 scan t2",
		"": "", " ": "", "scan": "", "scan  t1 x": "", "scan\tt1": "", "limit 01 scan t1": "", "limit  $-1 scan t1": "", "limit  -1 scan t1": "", "both  scan t1": "",
	} {
		got, ok := impl.TidyPlan(text)
		if got != want || ok != (want != "") {
			t.Errorf("TidyPlan(%q) = %q, %v, want %q", text, got, ok, want)
		}
		if is := impl.IsPlanText(text); is != (ok && text == want) {
			t.Errorf("IsPlanText(%q) = %v", text, is)
		}
	}
}

// A text with another blank is read, but is not as it was printed.
func TestIsPlanText(t *testing.T) {
	for _, p := range ordinaryPlans() {
		text := impl.PrintPlan(p)
		if !impl.IsPlanText(text) {
			t.Errorf("%q is the text of a plan", text)
		}
		for i := range len(text) + 1 {
			for _, blank := range []string{" ", "\n"} {
				if impl.IsPlanText(text[:i]+blank+text[i:]) || i < len(text) && text[i] == ' ' && impl.IsPlanText(text[:i]+"\n"+text[i+1:]) {
					t.Errorf("%q has another blank at %d", text, i)
				}
			}
		}
	}
}

func TestPlanLines(t *testing.T) {
	for want, p := range map[string][]impl.Node{
		"scan t1\n":                  {scan("t1")},
		"filter 0 none\n  scan t1\n": {filter(0, impl.OpNone, 0), scan("t1")},
		"limit $3\n  once\n    sort 1\n      filter 2 > -5\n        keep 2 1 0\n          scan t1\n": {asSlot(limit(3)), once(), sortBy(1), filter(2, impl.OpMore, -5), keep(1, 0), scan("t1")},
		"join 0 1\n  scan t1\n  scan t2\n": {joinOn(0, 1), scan("t1"), scan("t2")},
		"both\n  join 0 0\n    scan a\n    once\n      scan b\n  both\n    both\n      scan c\n      scan d\n    scan e\n":                               {both(), joinOn(0, 0), scan("a"), once(), scan("b"), both(), both(), scan("c"), scan("d"), scan("e")},
		"join 1 0\n  join 2 0\n    join 3 0\n      scan a\n      scan b\n    scan c\n  join 4 0\n    scan d\n    join 5 0\n      scan e\n      scan f\n": {joinOn(1, 0), joinOn(2, 0), joinOn(3, 0), scan("a"), scan("b"), scan("c"), joinOn(4, 0), scan("d"), joinOn(5, 0), scan("e"), scan("f")},
	} {
		if got := impl.PlanLines(p); got != want {
			t.Errorf("PlanLines(%v) = %q, want %q", p, got, want)
		}
	}
}

func wantLines(p []impl.Node) string {
	text := ""
	for k, n := range p {
		text += strings.Repeat("  ", wantAbove(p, k)) + impl.NodeText(n) + "\n"
	}
	return text
}

func TestLinesOfEveryShortPlan(t *testing.T) {
	plans := append(ordinaryPlans(), longWords(), over(both(), chain(9), chain(9)), over(both(), chain(1), chain(9)), over(joinOn(0, 0), chain(9), bushyOf(20)))
	for depth := 1; depth <= impl.MaxDepth; depth++ {
		plans = append(plans, chain(depth))
	}
	plans = append(plans, everyPlan([]impl.Node{scan("t1"), scan("t2"), joinOn(0, 1), both(), asSlot(limit(2)), once()}, 6)...)
	for _, p := range plans {
		got := impl.PlanLines(p)
		if got != wantLines(p) {
			t.Errorf("PlanLines(%v) = %q", p, got)
		}
		if again, wrong := impl.ParsePlan(got); wrong != -1 || !sameNodes(again, p) {
			t.Errorf("%q is read as %v, %d", got, again, wrong)
		}
	}
}

// What is no node has no text, alone or within a plan, and neither has one with a field that its Kind does not name.
func TestNoNodeHasText(t *testing.T) {
	for _, n := range append(unfitNodes(), impl.Node{Kind: impl.NodeOnce, Num: 1}, impl.Node{Kind: impl.NodeScan, Name: "t1", Cols: []int{0}}, impl.Node{Kind: impl.NodeSort, Slot: true}, impl.Node{Kind: impl.NodeKeep, Cols: []int{0}, Col: 1}, impl.Node{Kind: impl.NodeBoth, Name: "a"}, impl.Node{Kind: impl.NodeLimit, Op: 1}) {
		if got := impl.NodeText(n); got != "" {
			t.Errorf("NodeText(%+v) = %q", n, got)
		}
		for _, p := range [][]impl.Node{{n}, {n, scan("a")}, {n, scan("a"), scan("b")}, {once(), n}, {once(), n, scan("a")}, {both(), n, scan("a")}, {both(), scan("a"), n}, {scan("a"), n}} {
			if text, lines := impl.PrintPlan(p), impl.PlanLines(p); text != "" || lines != "" {
				t.Errorf("%v is no plan: PrintPlan %q, PlanLines %q", p, text, lines)
			}
		}
	}
}

func TestTextAnswersAreNewMemory(t *testing.T) {
	text := "join 0 0 keep 2 1 0 scan t1 keep 2 1 0 scan t2"
	first, _ := impl.ParsePlan(text)
	kept := deepCopy(first)
	second, _ := impl.ParsePlan(text)
	spoil(second)
	if !sameNodes(first, kept) {
		t.Error("two answers of ParsePlan share memory")
	}
	first[1].Cols[0] = 9
	_ = append(first[1].Cols, 7)
	if !slices.Equal(first[3].Cols, []int{1, 0}) {
		t.Error("two lists of one answer share memory")
	}
	words := impl.WordsOf(text)
	clear(impl.WordsOf(text))
	if strings.Join(words, " ") != text {
		t.Error("two answers of WordsOf share memory")
	}
}

func TestTextArgumentsStay(t *testing.T) {
	for _, p := range append(ordinaryPlans(), slices.Collect(maps.Values(noPlans()))...) {
		room := append(make([]impl.Node, 0, len(p)+4), deepCopy(p)...)
		impl.PrintPlan(room)
		impl.PlanLines(room)
		for _, n := range room {
			impl.NodeText(n)
		}
		if !sameNodes(room, p) || !sameNodes(room[:len(p)+4][len(p):], make([]impl.Node, 4)) {
			t.Errorf("%v is not as it was", p)
		}
	}
}
