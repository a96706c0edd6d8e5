package tests

import (
	"regexp"
	"slices"
	"strconv"
	"strings"
	"testing"

	"loop.example/g00844/impl"
)

// wantWords parts a text by its bytes 32 and 10, without a look at its runes.
func wantWords(text string) []string {
	if len(text) > impl.MaxText {
		return nil
	}
	var words []string
	for word := range strings.SplitSeq(strings.ReplaceAll(text, "\n", " "), " ") {
		if word != "" {
			words = append(words, word)
		}
	}
	return words
}

var (
	numForm  = regexp.MustCompile(`^(0|-?[1-9][0-9]{0,6})$`)
	nameForm = regexp.MustCompile(`^[a-z][a-z0-9]{0,11}$`)
)

func isNumWord(word string) bool {
	x, _ := strconv.Atoi(word)
	return numForm.MatchString(word) && -1000000 <= x && x <= 1000000
}

// behindWord tells what is wanted behind a word, and whether it can stand where that is wanted: n a node, w a name, d a number, l a number or a slot, o what stands behind a filter's Col, c a number of Cols.
func behindWord(wanted byte, word string) (string, bool) {
	first := map[string]string{"scan": "w", "filter": "don", "keep": "c", "join": "ddnn", "both": "nn", "sort": "dn", "limit": "ln", "once": "n"}
	switch wanted {
	case 'n':
		behind, ok := first[word]
		return behind, ok
	case 'w':
		return "", nameForm.MatchString(word)
	case 'd':
		return "", isNumWord(word)
	case 'l':
		slot, ok := strings.CutPrefix(word, "$")
		return "", isNumWord(slot) && !(ok && slot[0] == '-')
	case 'o':
		if word == "none" {
			return "", true
		}
		return "l", word == "=" || word == "<" || word == ">"
	}
	count := strings.Index("0123456", word)
	return strings.Repeat("d", max(count, 0)) + "n", len(word) == 1 && count > 0
}

// nodeOf makes a node of words that can all stand there.
func nodeOf(words []string) impl.Node {
	var nums []int
	slot := false
	for _, word := range words[1:] {
		digits, cut := strings.CutPrefix(word, "$")
		slot = slot || cut
		if x, err := strconv.Atoi(digits); err == nil {
			nums = append(nums, x)
		}
	}
	switch words[0] {
	case "scan":
		return scan(words[1])
	case "filter":
		nums = append(nums, 0)
		n := filter(nums[0], strings.Index("=<>n", words[2][:1]), nums[1])
		n.Slot = slot
		return n
	case "keep":
		return keep(nums[1:]...)
	case "join":
		return joinOn(nums[0], nums[1])
	case "both":
		return both()
	case "sort":
		return sortBy(nums[0])
	case "limit":
		return impl.Node{Kind: impl.NodeLimit, Num: nums[0], Slot: slot}
	}
	return once()
}

// wantPlan goes from word to word and keeps what is wanted behind it.
func wantPlan(text string) ([]impl.Node, int) {
	if len(text) > impl.MaxText {
		return nil, 0
	}
	words := wantWords(text)
	wanted := "n"
	var starts []int
	for i, word := range words {
		if wanted == "" {
			return nil, i
		}
		behind, ok := behindWord(wanted[0], word)
		if !ok {
			return nil, i
		}
		if wanted[0] == 'n' {
			starts = append(starts, i)
		}
		wanted = behind + wanted[1:]
	}
	if wanted != "" {
		return nil, len(words)
	}
	var p []impl.Node
	for k, end := range append(starts, len(words))[1:] {
		p = append(p, nodeOf(words[starts[k]:end]))
	}
	if !impl.PlanOk(p) {
		return nil, len(words)
	}
	return p, -1
}

// readAsText holds all that is told of a text against the second reckoning, and asks what promise 6 asks of whatever text; it tells whether that is a plan's.
func readAsText(t *testing.T, text string) bool {
	t.Helper()
	want, place := wantPlan(text)
	got, wrong := impl.ParsePlan(text)
	if wrong != place || !sameNodes(got, want) {
		t.Errorf("ParsePlan(%q) = %v, %d, want %v, %d", text, got, wrong, want, place)
	}
	words := impl.WordsOf(text)
	if !slices.Equal(words, wantWords(text)) {
		t.Errorf("WordsOf(%q) = %q", text, words)
	}
	tidy, ok := impl.TidyPlan(text)
	is := impl.IsPlanText(text)
	if wrong != -1 {
		if ok || tidy != "" || is || wrong < 0 || wrong > len(words) {
			t.Errorf("%q is no plan's: %d, TidyPlan %q, %v, IsPlanText %v", text, wrong, tidy, ok, is)
		}
		return false
	}
	// Each number has one way to be written, so that nothing but the blanks can be put right.
	if !ok || tidy != strings.Join(words, " ") || tidy != impl.PrintPlan(got) || is != (tidy == text) {
		t.Errorf("%q is a plan's: TidyPlan %q, %v, IsPlanText %v", text, tidy, ok, is)
	}
	if again, wrong := impl.ParsePlan(tidy); wrong != -1 || !sameNodes(again, got) || !impl.IsPlanText(tidy) {
		t.Errorf("%q is put right as %q, which is read as %v, %d", text, tidy, again, wrong)
	}
	return true
}

// printedPlanIsRead asks what promise 6 asks of a plan; it tells its text.
func printedPlanIsRead(t *testing.T, p []impl.Node) string {
	t.Helper()
	text := impl.PrintPlan(p)
	if got, wrong := impl.ParsePlan(text); wrong != -1 || !sameNodes(got, p) {
		t.Errorf("%v is printed as %q, which is read as %v, %d", p, text, got, wrong)
	}
	if !impl.IsPlanText(text) {
		t.Errorf("%q is the text of a plan", text)
	}
	for _, other := range []string{text, impl.PlanLines(p), "\n " + strings.ReplaceAll(text, " ", " \n\n ") + "  \n"} {
		if tidy, ok := impl.TidyPlan(other); !ok || tidy != text {
			t.Errorf("TidyPlan(%q) = %q, %v, want %q", other, tidy, ok, text)
		}
		readAsText(t, other)
	}
	return text
}

// longWords is the plan with the longest text that there may be.
func longWords() []impl.Node {
	columns := keep(58, 59, 60, 61, 62, 63)
	part := func(keeps int) []impl.Node {
		return append(slices.Repeat([]impl.Node{columns}, keeps), scan("abcdefghijkl"))
	}
	left := over(both(), over(both(), part(5), part(5)), part(7))
	return over(both(), left, over(both(), part(7), part(7)))
}

// Promise 6, its first half.
func TestPlansArePrintedAndRead(t *testing.T) {
	texts := map[string]bool{}
	plans := append(ordinaryPlans(), longWords())
	for _, n := range everyNode() {
		plans = append(plans, over(n, slices.Repeat([]impl.Node{scan("t1")}, wantArity(n.Kind))), over(both(), over(n, slices.Repeat([]impl.Node{scan("both")}, wantArity(n.Kind))), []impl.Node{scan("keep")}))
	}
	for _, p := range plans {
		texts[printedPlanIsRead(t, p)] = true
	}
	if len(texts) < 30000 {
		t.Errorf("%d plans have only %d texts", len(plans), len(texts))
	}
	if got := len(impl.PrintPlan(longWords())); got != 884 {
		t.Errorf("the longest text has %d bytes", got)
	}
}

func TestEveryShortPlanIsPrintedAndRead(t *testing.T) {
	nodes := []impl.Node{scan("t1"), scan("none"), filter(0, impl.OpNone, 0), filter(1, impl.OpLess, -1), asSlot(filter(1, impl.OpSame, 2)), keep(0), keep(1, 0), joinOn(0, 1), both(), sortBy(2), limit(3), asSlot(limit(3)), once()}
	plans := everyPlan(nodes, 4)
	texts := map[string]bool{}
	for _, p := range plans {
		texts[printedPlanIsRead(t, p)] = true
	}
	if len(texts) != len(plans) || len(plans) < 1800 {
		t.Errorf("%d plans have %d texts", len(plans), len(texts))
	}
}

// oddWords are words of each node, and nearly such.
func oddWords() []string {
	return []string{
		"scan", "filter", "keep", "join", "both", "sort", "limit", "once", "none", "=", "<", ">",
		"0", "1", "6", "7", "63", "64", "-1", "-0", "+1", "01", "-", "1000000", "-1000000", "1000001", "-1000001", "00000001", "0000001", "9999999", "10000000", "99999999999999999999", "1_0", "0x1", "1.0", "1e3",
		"$", "$0", "$39", "$40", "$-1", "$-0", "$+1", "$01", "$1000000", "$1000001", "$$0", "$x", "-$1", "0$",
		"t1", "abcdefghijkl", "abcdefghijklm", "1t", "T1", "t_1", "Scan", "scans", "sca", "None", "non", "==", "<=", "=>", "!", "t1\t", "\tt1", "\r", "\x00", "\x0b", "\x0c",
		"ä", "t\u00e4", "\u00a0", "\u2003", "\u0120", "\u010a", "\u0661", "\uff11", "\U00010020", "\xff", "\xc4", "1\xff", "\xa0", "scan\xe2\x80", "=\x80",
	}
}

// eachKindTexts have a node of each kind, and each kind of word within it.
func eachKindTexts() []string {
	return []string{
		"scan t1", "filter 1 = 5 scan t1", "filter 0 < -7 scan t1", "filter 63 > $39 scan t1", "filter 2 none scan t1", "keep 1 0 scan t1", "keep 6 0 1 2 3 4 63 scan t1", "join 1 63 scan t1 scan t2", "both scan t1 scan t2", "sort 5 scan t1", "limit 1000000 scan t1", "limit $0 scan t1", "once scan t1",
		"join 0 0 filter 1 > 5 scan t1 keep 2 2 1 limit $7 scan t2", "both filter 0 none both scan a scan b once sort 1 scan c",
	}
}

// At each place of the text of each kind of node a word is left out, is another one, and has each ahead of it; and the words end there.
func TestEachWordAtEachPlace(t *testing.T) {
	read := 0
	for _, text := range eachKindTexts() {
		words := strings.Split(text, " ")
		readAsText(t, text)
		for i := range len(words) + 1 {
			ahead, behind := strings.Join(words[:i], " "), strings.Join(words[i:], " ")
			readAsText(t, ahead)
			readAsText(t, behind)
			if i < len(words) {
				readAsText(t, ahead+" "+strings.Join(words[i+1:], " "))
			}
			for _, word := range oddWords() {
				if readAsText(t, ahead+" "+word+" "+behind) {
					read++
				}
				if i < len(words) && readAsText(t, ahead+" "+word+" "+strings.Join(words[i+1:], " ")) {
					read++
				}
			}
		}
	}
	if read < 300 {
		t.Errorf("only %d plans were read", read)
	}
}

// At each place of a text it is cut, a byte is left out, made each other one, and has each ahead of it.
func TestEachByteAtEachPlace(t *testing.T) {
	for _, text := range append(eachKindTexts(), " \n  scan \n t1\n ", "limit\n$0  scan\nt1") {
		for i := range len(text) + 1 {
			readAsText(t, text[:i])
			readAsText(t, text[i:])
			if i < len(text) {
				readAsText(t, text[:i]+text[i+1:])
			}
			for c := range 256 {
				readAsText(t, text[:i]+string([]byte{byte(c)})+text[i:])
				if i < len(text) {
					readAsText(t, text[:i]+string([]byte{byte(c)})+text[i+1:])
				}
			}
		}
	}
}

// All texts of up to that many of these words.
func everyText(words []string, most int, visit func(string)) {
	letters := make([]byte, len(words))
	for i := range letters {
		letters[i] = byte(i)
	}
	everyBytes(letters, most, func(b []byte) {
		text := ""
		for _, c := range b {
			text += " " + words[c]
		}
		visit(text[min(len(text), 1):])
	})
}

func TestEveryShortText(t *testing.T) {
	read := 0
	for most, words := range map[int][]string{
		4: {"scan", "filter", "keep", "join", "both", "sort", "limit", "once", "none", "=", "0", "2", "64", "-1", "$0", "$40", "$-1", "t1", "x"},
		5: {"scan", "filter", "both", "limit", "none", "<", "1", "$1", "$-1", "a"},
		6: {"scan", "filter", "keep", "0", "1", "none", ">", "$0"},
	} {
		everyText(words, most, func(text string) {
			if readAsText(t, text) {
				read++
			}
		})
	}
	if read < 190 {
		t.Errorf("only %d plans were read", read)
	}
}

// Places where a number stands: the text ahead of it and behind it, whether a slot may stand there too, and how far the number may go for the text to be a plan's.
var numberPlaces = []struct {
	ahead, behind string
	slot          bool
	least, most   int
}{
	{"filter ", " = 1 scan t1", false, 0, 63}, {"filter ", " none scan t1", false, 0, 63},
	{"filter 0 = ", " scan t1", true, -1000000, 1000000}, {"filter 0 < ", " scan t1", true, -1000000, 1000000}, {"filter 0 > ", " scan t1", true, -1000000, 1000000},
	{"keep 1 ", " scan t1", false, 0, 63}, {"keep 3 0 ", " 0 scan t1", false, 0, 63}, {"keep 6 0 0 0 0 0 ", " scan t1", false, 0, 63},
	{"join ", " 0 scan t1 scan t2", false, 0, 63}, {"join 0 ", " scan t1 scan t2", false, 0, 63},
	{"sort ", " scan t1", false, 0, 63}, {"limit ", " scan t1", true, 0, 1000000}, {"once limit ", " scan t1", true, 0, 1000000},
}

func placeIs(t *testing.T, text string, want int) {
	t.Helper()
	if _, wrong := impl.ParsePlan(text); wrong != want {
		t.Errorf("ParsePlan tells %d of %q, want %d", wrong, text, want)
	}
	readAsText(t, text)
}

func TestNumbersToTheirEnds(t *testing.T) {
	nums := []int{impl.MaxNodes, 9999999, 10000000, 99999999, 1 << 31, 1 << 32, 1 << 62, -1 << 63}
	for x := -70; x <= 70; x++ {
		nums = append(nums, x, 1000000+x, -1000000+x, 100000+x, 10000000+x)
	}
	for _, at := range numberPlaces {
		place := len(strings.Fields(at.ahead))
		all := place + 1 + len(strings.Fields(at.behind))
		for _, x := range nums {
			want := -1
			if x < -impl.MaxNum || x > impl.MaxNum {
				want = place
			} else if x < at.least || x > at.most {
				want = all
			}
			placeIs(t, at.ahead+strconv.Itoa(x)+at.behind, want)
			want = -1
			if !at.slot || x < 0 || x > impl.MaxNum {
				want = place
			} else if x >= impl.MaxNodes {
				want = all
			}
			placeIs(t, at.ahead+"$"+strconv.Itoa(x)+at.behind, want)
			if x >= 0 {
				for _, word := range []string{"0" + strconv.Itoa(x), "+" + strconv.Itoa(x), "-0" + strconv.Itoa(x), "$0" + strconv.Itoa(x), "$+" + strconv.Itoa(x), "-$" + strconv.Itoa(x), "$$" + strconv.Itoa(x)} {
					placeIs(t, at.ahead+word+at.behind, place)
				}
			}
		}
		for _, word := range []string{"-0", "+0", "$-0", "$", "-", "+", "$$", "x", "one", "=", "none", "scan"} {
			placeIs(t, at.ahead+word+at.behind, place)
		}
	}
}

// A number is written in one way alone: all short texts stand in its place.
func TestEveryShortNumber(t *testing.T) {
	for _, at := range []string{"limit ", "sort ", "filter 0 < ", "keep "} {
		everyBytes([]byte("-+01796$x "), 4, func(b []byte) {
			readAsText(t, at+string(b)+" scan t1")
		})
	}
}

func TestNumberOfCols(t *testing.T) {
	for count := -2; count <= 10; count++ {
		for have := range 10 {
			text := "keep " + strconv.Itoa(count) + strings.Repeat(" 0", have) + " scan t1"
			want := -1
			switch {
			case count < 1 || count > impl.MaxCols:
				want = 1
			case have != count:
				// Where there are too few the scan is no number, where there are too many a 0 is no node.
				want = 2 + min(count, have)
			}
			placeIs(t, text, want)
		}
	}
	for _, word := range []string{"01", "-1", "+1", "$1", "1000000", "1000001", "x", "=", "keep"} {
		placeIs(t, "keep "+word+" 0 scan t1", 1)
	}
}

func TestNamesToTheirEnds(t *testing.T) {
	for length := 1; length <= 20; length++ {
		want := -1
		if length > impl.MaxWord {
			want = 1
		}
		placeIs(t, "scan "+strings.Repeat("a", length), want)
		placeIs(t, "scan a"+strings.Repeat("9", length-1), want)
		placeIs(t, "scan 9"+strings.Repeat("a", length-1), 1)
	}
	// The words that begin a node are names as well.
	for _, word := range []string{"scan", "filter", "keep", "join", "both", "sort", "limit", "once", "none"} {
		placeIs(t, "scan "+word, -1)
		placeIs(t, "both scan "+word+" once scan "+word, -1)
	}
}

func TestWordsThatMakeNoPlan(t *testing.T) {
	flat := func(leaves int) string {
		return strings.TrimSpace(strings.Repeat("both scan a ", leaves-1) + "scan a")
	}
	for text, want := range map[string]int{
		strings.Repeat("once ", 9) + "scan a":                  -1,
		strings.Repeat("once ", 10) + "scan a":                 12,
		strings.Repeat("sort 0 ", 10) + "scan a":               22,
		"both " + strings.Repeat("once ", 8) + "scan a scan b": -1,
		"both " + strings.Repeat("once ", 9) + "scan a scan b": 14,
		"both scan b " + strings.Repeat("once ", 8) + "scan a": -1,
		"both scan b " + strings.Repeat("once ", 9) + "scan a": 14,
		flat(10):                               -1,
		flat(11):                               32,
		impl.PrintPlan(bushyOf(impl.MaxNodes)): -1,
		"both " + impl.PrintPlan(bushyOf(19)) + " " + impl.PrintPlan(bushyOf(20)): -1,
		"both " + impl.PrintPlan(bushyOf(20)) + " " + impl.PrintPlan(bushyOf(20)): 61,
		"limit $39 scan a": -1, "limit $40 scan a": 4, "filter 0 = $40 scan a": 6, "sort 64 scan a": 4,
	} {
		placeIs(t, text, want)
		if want == -1 {
			words := len(strings.Fields(text))
			placeIs(t, text+" scan a", words)
			placeIs(t, text+" x", words)
			placeIs(t, text+" \xff", words)
			placeIs(t, text[:strings.LastIndex(text, " ")], words-1)
		}
	}
}

// Whatever the text, what is read of it is printed as itself but for its blanks; texts are put together of nodes, of words, and of any bytes.
func TestWhateverTextIsRead(t *testing.T) {
	next := made(11)
	nodes := append(everyNode(), slices.Repeat([]impl.Node{scan("a"), once(), both()}, 6000)...)
	blanks := []string{" ", " ", " ", " ", " ", "  ", "\n", " \n ", "\n\n", "\t"}
	read := 0
	for range 60000 {
		text := blanks[next(len(blanks))]
		for range next(7) {
			words := strings.Split(impl.NodeText(nodes[next(len(nodes))]), " ")
			if next(16) == 0 {
				words[next(len(words))] = oddWords()[next(len(oddWords()))]
			}
			for _, word := range words {
				text += word + blanks[next(len(blanks)-next(2))]
			}
		}
		if next(8) == 0 {
			i := next(len(text))
			text = text[:i] + string([]byte{byte(next(256))}) + text[i+1:]
		}
		if readAsText(t, text) {
			read++
		}
	}
	if read < 1000 {
		t.Errorf("only %d plans were read", read)
	}
}
