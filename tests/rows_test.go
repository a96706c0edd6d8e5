package tests

import (
	"math"
	"regexp"
	"slices"
	"strconv"
	"strings"
	"testing"

	"loop.example/g00844/impl"
)

// everyRow makes all rows of up to that many of these values.
func everyRow(values []int, most int) [][]int {
	rows := [][]int{{}}
	for from := 0; from < len(rows); from++ {
		for _, x := range values {
			if len(rows[from]) < most {
				rows = append(rows, append(slices.Clone(rows[from]), x))
			}
		}
	}
	return rows
}

// wantLess reads the words of the chapter, with None ahead of all numbers.
func wantLess(a []int, b []int) bool {
	for i, x := range a {
		if i == len(b) {
			return false
		}
		if x != b[i] {
			return x == none || b[i] != none && x < b[i]
		}
	}
	return len(a) < len(b)
}

func TestRowLess(t *testing.T) {
	for _, c := range []struct {
		a, b []int
		want bool
	}{
		{nil, nil, false}, {nil, []int{}, false}, {nil, []int{none}, true}, {[]int{none}, nil, false},
		{[]int{1}, []int{1}, false}, {[]int{1}, []int{2}, true}, {[]int{2}, []int{1}, false}, {[]int{9}, []int{10}, true}, {[]int{-2}, []int{-1}, true},
		{[]int{1}, []int{1, 0}, true}, {[]int{1}, []int{1, none}, true}, {[]int{1, none}, []int{1}, false}, {[]int{2}, []int{1, 9}, false}, {[]int{1, 9}, []int{2}, true},
		{[]int{none}, []int{-impl.MaxNum}, true}, {[]int{-impl.MaxNum}, []int{none}, false}, {[]int{none}, []int{none}, false}, {[]int{none, 1}, []int{none, 2}, true},
		{[]int{1, none}, []int{1, -impl.MaxNum}, true}, {[]int{1, 2, 3}, []int{1, 3, 0}, true}, {[]int{-impl.MaxNum}, []int{impl.MaxNum}, true},
		{[]int{math.MinInt}, []int{math.MaxInt}, true}, {[]int{math.MaxInt}, []int{math.MinInt}, false},
	} {
		if got := impl.RowLess(c.a, c.b); got != c.want {
			t.Errorf("RowLess(%v, %v) is %v", c.a, c.b, got)
		}
	}
	rows := everyRow([]int{none, -impl.MaxNum, 0, impl.MaxNum}, 3)
	for _, a := range rows {
		for _, b := range rows {
			if got := impl.RowLess(a, b); got != wantLess(a, b) {
				t.Errorf("RowLess(%v, %v) is %v", a, b, got)
			}
			if impl.RowLess(a, b) == impl.RowLess(b, a) && !slices.Equal(a, b) {
				t.Errorf("%v and %v have no order", a, b)
			}
		}
	}
}

// mixed are the rows with others between, so that they are in no order, and some more often than others.
func mixed(rows [][]int, count int) [][]int {
	var out [][]int
	for i := range count {
		out = append(out, rows[i*i*7%len(rows)])
	}
	return out
}

func countOf(rows [][]int, row []int) int {
	count := 0
	for _, x := range rows {
		if slices.Equal(x, row) {
			count++
		}
	}
	return count
}

func TestSortRows(t *testing.T) {
	kinds := everyRow([]int{none, -1, 0, impl.MaxNum}, 3)
	for _, count := range []int{0, 1, 2, 3, 10, 40, 199, 200} {
		rows := mixed(kinds, count)
		got := impl.SortRows(rows)
		if len(got) != count {
			t.Fatalf("%d rows are sorted as %d", count, len(got))
		}
		for i := 1; i < len(got); i++ {
			if wantLess(got[i], got[i-1]) {
				t.Errorf("%v stands ahead of %v", got[i-1], got[i])
			}
		}
		for _, row := range rows {
			if countOf(got, row) != countOf(rows, row) {
				t.Errorf("%v comes %d times, not %d", row, countOf(got, row), countOf(rows, row))
			}
		}
		if !sameLists(impl.SortRows(got), got) {
			t.Error("what is sorted is sorted anew")
		}
	}
	for _, count := range []int{201, 202, 5000} {
		if got := impl.SortRows(mixed(kinds, count)); len(got) != 0 {
			t.Errorf("%d rows are sorted as %d", count, len(got))
		}
	}
	want := [][]int{nil, nil, {none}, {none, 2}, {1}, {1}, {1, none}, {1, 0}, {2}}
	if got := impl.SortRows([][]int{{1, 0}, {2}, nil, {1}, {none, 2}, {1, none}, {}, {none}, {1}}); !sameLists(got, want) {
		t.Errorf("SortRows = %v", got)
	}
}

func TestSameRows(t *testing.T) {
	lists := [][][]int{
		nil, {nil}, {nil, nil}, {{1}}, {{2}}, {{none}}, {{1}, {1}}, {{1}, {2}}, {{2}, {1}}, {{1, 2}}, {{1}, {2}, {1}}, {{1, 2}, {1}}, {{1}, {1, 2}}, {{none, 1}}, {{1, none}},
		slices.Repeat([][]int{{1}}, 200), slices.Repeat([][]int{{1}}, 201), slices.Repeat([][]int{{1}}, 202),
	}
	for i, a := range lists {
		for k, b := range lists {
			if got := impl.SameRows(a, copyLists(b)); got != (i == k) {
				t.Errorf("SameRows of list %d and list %d is %v", i, k, got)
			}
		}
	}
	if !impl.SameRows(nil, [][]int{}) || !impl.SameRows([][]int{nil}, [][]int{{}}) {
		t.Error("an empty list and nil are the same")
	}
	long := slices.Repeat([][]int{{1, 2}}, 300)
	other := copyLists(long)
	other[299][1] = 3
	if impl.SameRows(long, other) {
		t.Error("the last value is another one")
	}
}

func TestSameBag(t *testing.T) {
	kinds := everyRow([]int{none, 0, 1}, 2)
	for _, count := range []int{0, 1, 2, 5, 40, 199, 200, 201, 202, 500} {
		a := mixed(kinds, count)
		b := copyLists(a)
		slices.Reverse(b)
		want := count <= impl.MaxRows
		if impl.SameBag(a, b) != want || impl.SameBag(b, a) != want || impl.SameBag(a, a) != want {
			t.Errorf("%d rows, turned about: want %v", count, want)
		}
		if count == 0 {
			continue
		}
		if impl.SameBag(a, b[1:]) || impl.SameBag(b[1:], a) || impl.SameBag(a, append(slices.Clone(b), nil)) {
			t.Errorf("%d rows are the same as one less or one more", count)
		}
		b[0] = []int{7}
		if impl.SameBag(a, b) || impl.SameBag(b, a) {
			t.Errorf("%d rows are the same as others", count)
		}
	}
	for _, c := range []struct {
		a, b [][]int
		want bool
	}{
		{nil, [][]int{}, true}, {[][]int{nil}, [][]int{{}}, true}, {nil, [][]int{nil}, false},
		// Rows that are the same are counted.
		{[][]int{{1}, {1}, {2}}, [][]int{{1}, {2}, {2}}, false}, {[][]int{{1}, {1}, {2}}, [][]int{{1}, {2}, {1}}, true}, {[][]int{{1}, {1}}, [][]int{{1}}, false},
		{[][]int{{1, 2}}, [][]int{{2, 1}}, false}, {[][]int{{1, 2}}, [][]int{{1}, {2}}, false}, {[][]int{{1}, {1, 2}}, [][]int{{1, 2}, {1}}, true},
		{[][]int{{none}, {0}}, [][]int{{0}, {none}}, true}, {[][]int{{none}}, [][]int{{0}}, false}, {[][]int{{none}}, [][]int{{-impl.MaxNum}}, false},
		{slices.Repeat([][]int{{1}}, 201), nil, false}, {nil, slices.Repeat([][]int{{1}}, 201), false}, {slices.Repeat([][]int{{1}}, 201), slices.Repeat([][]int{{2}}, 201), false},
	} {
		if got := impl.SameBag(c.a, c.b); got != c.want {
			t.Errorf("SameBag(%v, %v) is %v", c.a, c.b, got)
		}
	}
}

func TestRowText(t *testing.T) {
	for _, c := range []struct {
		row  []int
		want string
	}{
		{nil, "()"}, {[]int{}, "()"}, {[]int{0}, "0"}, {[]int{none}, "-"}, {[]int{-1}, "-1"}, {[]int{1, none, 3}, "1,-,3"}, {[]int{none, none}, "-,-"},
		{[]int{impl.MaxNum, -impl.MaxNum}, "1000000,-1000000"}, {[]int{10, 0, -10}, "10,0,-10"}, {[]int{none, -1, none}, "-,-1,-"},
		// What is no value is written as the number that it is.
		{[]int{impl.MaxNum + 1, none + 1, none - 1, -none}, "1000001,-1999999,-2000001,2000000"}, {[]int{math.MaxInt, math.MinInt}, "9223372036854775807,-9223372036854775808"},
	} {
		if got := impl.RowText(c.row); got != c.want {
			t.Errorf("RowText(%v) = %q, want %q", c.row, got, c.want)
		}
	}
	for _, count := range []int{64, 65, 1000} {
		if got, want := impl.RowText(make([]int, count)), strings.Repeat("0,", count-1)+"0"; got != want {
			t.Errorf("RowText of %d values = %q", count, got)
		}
	}
}

func rowIsRead(t *testing.T, row []int) {
	t.Helper()
	text := impl.RowText(row)
	if got, ok := impl.ParseRow(text); !ok || !slices.Equal(got, row) {
		t.Errorf("%v is written as %q and read as %v, %v", row, text, got, ok)
	}
}

func noRow(t *testing.T, text string) {
	t.Helper()
	if got, ok := impl.ParseRow(text); ok || len(got) != 0 {
		t.Errorf("ParseRow(%q) = %v, %v, want nothing and false", text, got, ok)
	}
}

// Promise 4, of rows as text.
func TestRowIsReadAsItWasWritten(t *testing.T) {
	for _, row := range everyRow([]int{none, -impl.MaxNum, -1, 0, 10, impl.MaxNum}, 4) {
		rowIsRead(t, row)
	}
	for x := -impl.MaxNum; x <= impl.MaxNum; x += 997 {
		rowIsRead(t, []int{x, none, -x})
	}
	for count := range 65 {
		rowIsRead(t, make([]int, count))
		rowIsRead(t, slices.Repeat([]int{none}, count))
		rowIsRead(t, slices.Repeat([]int{-impl.MaxNum}, count))
	}
	for _, count := range []int{65, 66, 128, 129, 5000} {
		noRow(t, impl.RowText(make([]int, count)))
		noRow(t, impl.RowText(slices.Repeat([]int{none}, count)))
	}
	for _, x := range []int{impl.MaxNum + 1, -impl.MaxNum - 1, none - 1, none + 1, -none, math.MaxInt, math.MinInt} {
		noRow(t, impl.RowText([]int{x}))
		noRow(t, impl.RowText([]int{1, x}))
		noRow(t, impl.RowText([]int{x, none}))
	}
}

var rowForm = regexp.MustCompile(`\A(-|0|-?[1-9][0-9]{0,6})(,(-|0|-?[1-9][0-9]{0,6})){0,63}\z`)

// wantRow reads a text by its form, and the ends of the numbers apart from it.
func wantRow(text string) ([]int, bool) {
	if text == "()" {
		return nil, true
	}
	if !rowForm.MatchString(text) {
		return nil, false
	}
	var row []int
	for word := range strings.SplitSeq(text, ",") {
		x, err := strconv.Atoi(word)
		if word == "-" {
			x, err = none, nil
		} else if x < -1000000 || x > 1000000 {
			return nil, false
		}
		if err != nil {
			return nil, false
		}
		row = append(row, x)
	}
	return row, true
}

func rowReadAs(t *testing.T, text string) {
	t.Helper()
	want, is := wantRow(text)
	got, ok := impl.ParseRow(text)
	if ok != is || !slices.Equal(got, want) {
		t.Errorf("ParseRow(%q) = %v, %v, want %v, %v", text, got, ok, want, is)
	}
	if ok && impl.RowText(got) != text {
		t.Errorf("%q is read, but written as %q", text, impl.RowText(got))
	}
}

// At each place of the text of a row it is cut, a byte is left out, made each other one, and has each ahead of it.
func TestNothingElseIsReadAsARow(t *testing.T) {
	for _, row := range [][]int{nil, {0}, {none}, {-7}, {1, none, 3}, {impl.MaxNum, -impl.MaxNum}, {10, 0, none}, make([]int, 64), slices.Repeat([]int{none}, 64)} {
		text := impl.RowText(row)
		for i := range len(text) + 1 {
			rowReadAs(t, text[:i])
			rowReadAs(t, text[i:])
			for c := range 256 {
				rowReadAs(t, text[:i]+string([]byte{byte(c)})+text[i:])
				if i < len(text) {
					rowReadAs(t, text[:i]+string([]byte{byte(c)})+text[i+1:])
				}
			}
			if i < len(text) {
				rowReadAs(t, text[:i]+text[i+1:])
			}
		}
	}
}

func TestEveryShortRowText(t *testing.T) {
	texts := []string{""}
	for from := 0; from < len(texts); from++ {
		rowReadAs(t, texts[from])
		if len(texts[from]) == 6 {
			continue
		}
		for _, c := range "01-,() " {
			texts = append(texts, texts[from]+string(c))
		}
	}
}

func TestNearlyARowText(t *testing.T) {
	for _, text := range []string{
		"", ",", ",,", "1,", ",1", "1,,2", ",1,2", "1,2,", "-,", ",-", "-,,-", "1,2,,", "()1", "(1)", "( )", "()()", "(),1", "1,()", "(", ")", "(()", "())", "(-)", "(0)", " ()", "() ", "(),()",
		" ", " 1", "1 ", "1, 2", "1 ,2", "1 2", "1\n", "\n1", "1\t,2", "- ", " -", "- 1", "1,\n2",
		"+1", "01", "00", "-0", "-01", "--", "--1", "1-", "-,-0", "1.0", "1e3", "0x1", "0b1", "1_000", "٢", "1,+2", "one", "none", "None", "nil", "$0", "-\x00", "\xff",
		"1000001", "-1000001", "10000000", "-2000000", "-1999999", "2000000", "1,-2000000", "99999999999999999999", "18446744073709551617", "-9223372036854775808", "00000000000000000001",
		"[1]", "1;2", "1/2", "{}", "[]", strings.Repeat("1", 5000), strings.Repeat(",", 5000), strings.Repeat("-", 300), strings.Repeat("0,", 64), "," + strings.Repeat("0,", 63), strings.Repeat("0,", 64) + "0", strings.Repeat("0,", 63) + "x", strings.Repeat("0,", 63) + "(),0",
	} {
		noRow(t, text)
	}
}

func TestCountSame(t *testing.T) {
	rows := [][]int{{1, 2}, {2, 1}, {1, 2}, {1}, nil, {none, 2}, {1, 2, 3}, {}, {none, 2}, {none, none}}
	for _, c := range []struct {
		row  []int
		want int
	}{
		{[]int{1, 2}, 2}, {[]int{2, 1}, 1}, {[]int{1}, 1}, {nil, 2}, {[]int{}, 2}, {[]int{none, 2}, 2}, {[]int{none, none}, 1}, {[]int{1, 2, 3}, 1}, {[]int{2}, 0}, {[]int{none}, 0}, {[]int{2, none}, 0}, {[]int{1, 2, 3, 4}, 0}, {[]int{1, none}, 0},
	} {
		if got := impl.CountSame(rows, c.row); got != c.want {
			t.Errorf("CountSame of %v = %d, want %d", c.row, got, c.want)
		}
		if got := impl.CountSame(nil, c.row); got != 0 {
			t.Errorf("CountSame of %v in nothing = %d", c.row, got)
		}
	}
	for _, count := range []int{1, 200, 201, 5000} {
		if got := impl.CountSame(slices.Repeat([][]int{{1}, {2}}, count), []int{2}); got != count {
			t.Errorf("CountSame = %d, want %d", got, count)
		}
	}
}

func TestColumnOf(t *testing.T) {
	rows := [][]int{{1, 2, 3}, nil, {4}, {none, 5}, {6, none, 7}, {}, {1, 2, 8, 9}}
	for col, want := range [][]int{{1, 4, none, 6, 1}, {2, 5, none, 2}, {3, 7, 8}, {9}, {}, {}} {
		if got := impl.ColumnOf(rows, col); !slices.Equal(got, want) {
			t.Errorf("ColumnOf %d = %v, want %v", col, got, want)
		}
	}
	for _, col := range []int{-1, -2, none, math.MinInt, 63, 64, math.MaxInt} {
		if got := impl.ColumnOf(rows, col); len(got) != 0 {
			t.Errorf("ColumnOf %d = %v, want nothing", col, got)
		}
	}
	for length := range 70 {
		row := make([]int, length)
		for i := range row {
			row[i] = i
		}
		for _, col := range []int{length - 1, length, length + 1} {
			got := impl.ColumnOf([][]int{row}, col)
			if col >= 0 && col < length && !slices.Equal(got, []int{col}) || (col < 0 || col >= length) && len(got) != 0 {
				t.Errorf("ColumnOf %d of a row of %d values = %v", col, length, got)
			}
		}
	}
	if len(impl.ColumnOf(nil, 0)) != 0 || len(impl.ColumnOf(nil, -1)) != 0 {
		t.Error("nothing has a column")
	}
	if got := impl.ColumnOf(slices.Repeat([][]int{{1, 2}}, 5000), 1); len(got) != 5000 {
		t.Errorf("ColumnOf of 5000 rows has %d values", len(got))
	}
}

func TestRowAnswersAreNewMemory(t *testing.T) {
	want := [][][]int{{{3, 1}, {1, none}, {3, 1}, nil, {2}}}
	store := room(want)
	rows := store[0]
	shared := slices.Repeat([][]int{{1, 2}}, 5)
	spoilLists(impl.SortRows(rows))
	spoilLists(impl.SortRows(shared)[:1])
	column := impl.ColumnOf(rows, 0)
	for i := range column[:cap(column)] {
		column[:cap(column)][i] = 99
	}
	column = impl.ColumnOf(rows[:1], 0)
	column[0] = 99
	impl.SameRows(rows, rows[1:])
	impl.SameBag(rows, rows[1:])
	impl.CountSame(rows, rows[0])
	impl.RowText(rows[0])
	impl.RowLess(rows[0], rows[1])
	if !sameStore(store, want) || !nothingBehind(store) || !slices.Equal(shared[0], []int{1, 2}) {
		t.Error("an answer shares memory with an argument, or something is written into one")
	}
	// One row that stands in the list twice is two rows of the answer.
	sorted := impl.SortRows(shared)
	sorted[0][0] = 99
	if !slices.Equal(sorted[1], []int{1, 2}) {
		t.Error("two rows of one answer share memory")
	}
	first, _ := impl.ParseRow("1,-,3")
	first[0] = 99
	if again, ok := impl.ParseRow("1,-,3"); !ok || !slices.Equal(again, []int{1, none, 3}) {
		t.Error("an answer is kept from one call to another")
	}
}
