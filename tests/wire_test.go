package tests

import (
	"bytes"
	"math"
	"slices"
	"strings"
	"testing"

	"loop.example/g00844/impl"
)

// The places of b at which nothing can stand.
func noPlaces(b []byte) []int {
	return []int{math.MinInt, -2, -1, len(b), len(b) + 1, math.MaxInt - 1, math.MaxInt}
}

func join(parts ...[]byte) []byte {
	return bytes.Join(parts, nil)
}

func TestWordOk(t *testing.T) {
	for _, w := range []string{"a", "z", "t1", "az09", "a00000000000", "abcdefghijkl"} {
		if !impl.WordOk(w) {
			t.Errorf("%q is a word", w)
		}
	}
	for _, w := range []string{"", "0", "9", "1a", "A", "aB", "a b", "a_", "a-", "a`", "a{", "a/", "a:", "a\x00", "\xff", "ä", "abcdefghijklm", strings.Repeat("a", 5000)} {
		if impl.WordOk(w) {
			t.Errorf("%q is no word", w)
		}
	}
}

func TestPutNumBytes(t *testing.T) {
	for _, c := range []struct {
		x    int
		want []byte
	}{
		{0, []byte{0}}, {-1, []byte{1}}, {1, []byte{2}}, {-2, []byte{3}},
		{63, []byte{126}}, {-64, []byte{127}}, {64, []byte{128, 1}}, {-65, []byte{129, 1}},
		{8191, []byte{254, 127}}, {-8192, []byte{255, 127}}, {8192, []byte{128, 128, 1}}, {-8193, []byte{129, 128, 1}},
		{impl.MaxNum, []byte{128, 137, 122}}, {-impl.MaxNum, []byte{255, 136, 122}},
	} {
		if got := impl.PutNum(c.x); !bytes.Equal(got, c.want) {
			t.Errorf("PutNum(%d) = %v, want %v", c.x, got, c.want)
		}
	}
	for _, x := range []int{impl.MaxNum + 1, -impl.MaxNum - 1, math.MaxInt, math.MinInt, math.MaxInt/2 + 1, math.MinInt / 2} {
		if got := impl.PutNum(x); len(got) != 0 {
			t.Errorf("PutNum(%d) = %v, want nothing", x, got)
		}
	}
}

func TestEveryNumberIsTakenAgain(t *testing.T) {
	b := make([]byte, 0, 8)
	for x := -impl.MaxNum; x <= impl.MaxNum; x++ {
		put := impl.PutNum(x)
		b = append(append(append(b[:0], 200), put...), 200)
		if got, next := impl.TakeNum(b, 1); got != x || next != 1+len(put) {
			t.Fatalf("%d was put as %v and taken as %d, %d", x, put, got, next)
		}
	}
}

func TestNumberIsTakenOnlyAsPut(t *testing.T) {
	taken := 0
	for n := range 1 << 24 {
		b := []byte{byte(n), byte(n >> 8), byte(n >> 16)}
		x, next := impl.TakeNum(b, 0)
		if next == -1 && x == 0 {
			continue
		}
		if next < 1 || next > 3 || !bytes.Equal(impl.PutNum(x), b[:next]) {
			t.Fatalf("TakeNum(%v, 0) = %d, %d, but PutNum gives %v", b, x, next, impl.PutNum(x))
		}
		if next == 3 {
			taken++
		}
	}
	// Of all three bytes those that are one number: the folded ones from 1 << 14 to 2 * MaxNum.
	if want := 2*impl.MaxNum - 1<<14 + 1; taken != want {
		t.Errorf("%d numbers of three bytes, want %d", taken, want)
	}
}

func TestNoNumber(t *testing.T) {
	for _, b := range [][]byte{
		nil, {}, {128}, {255}, {128, 128}, {255, 255},
		{128, 0}, {129, 0}, {254, 0}, {128, 128, 0}, {129, 137, 0},
		{129, 137, 122}, {128, 138, 122}, {255, 255, 127},
		{128, 137, 250, 0}, {128, 128, 128, 1}, {128, 128, 128, 0}, {128, 128, 128, 128, 0},
		{128, 128, 128, 128, 128, 128, 128, 128, 128, 1},
	} {
		if x, next := impl.TakeNum(b, 0); x != 0 || next != -1 {
			t.Errorf("TakeNum(%v, 0) = %d, %d, want 0, -1", b, x, next)
		}
	}
	b := []byte{2, 128, 1}
	for _, at := range noPlaces(b) {
		if x, next := impl.TakeNum(b, at); x != 0 || next != -1 {
			t.Errorf("TakeNum(%v, %d) = %d, %d, want 0, -1", b, at, x, next)
		}
	}
}

func TestWordIsTakenAgain(t *testing.T) {
	if got := impl.PutWord("t1"); !bytes.Equal(got, []byte{4, 't', '1'}) {
		t.Errorf("PutWord = %v", got)
	}
	for _, w := range []string{"a", "z9", "abcdefghijkl", "a00000000000"} {
		put := impl.PutWord(w)
		if want := join(impl.PutNum(len(w)), []byte(w)); !bytes.Equal(put, want) {
			t.Errorf("PutWord(%q) = %v, want %v", w, put, want)
		}
		b := join([]byte{9, 9}, put, []byte("abc"))
		if got, next := impl.TakeWord(b, 2); got != w || next != 2+len(put) {
			t.Errorf("%q was taken as %q, %d", w, got, next)
		}
	}
	for _, w := range []string{"", "1a", "A", "a b", "abcdefghijklm"} {
		if got := impl.PutWord(w); len(got) != 0 {
			t.Errorf("PutWord(%q) = %v, want nothing", w, got)
		}
	}
}

func TestNoWord(t *testing.T) {
	for _, b := range [][]byte{
		nil, {0}, {0, 'a'}, {1, 'a'}, {3, 'a', 'b'}, {2}, {130, 0, 'a'}, {128, 0},
		{4, 'a'}, {4, '1', 'a'}, {2, '0'}, {4, 'a', 'B'}, {4, 'a', 0}, {4, 'a', ' '},
		join([]byte{26}, []byte("abcdefghijklm")),
		join(impl.PutNum(300), bytes.Repeat([]byte("a"), 300)),
		join(impl.PutNum(impl.MaxNum), []byte("a")),
		join(impl.PutNum(-impl.MaxNum), []byte("a")),
	} {
		if w, next := impl.TakeWord(b, 0); w != "" || next != -1 {
			t.Errorf("TakeWord(%v, 0) = %q, %d, want nothing and -1", b, w, next)
		}
	}
	whole := impl.PutWord("abcdefghijkl")
	for n := range len(whole) {
		if w, next := impl.TakeWord(whole[:n], 0); w != "" || next != -1 {
			t.Errorf("a word cut to %d bytes was taken as %q, %d", n, w, next)
		}
	}
	for _, at := range noPlaces(whole) {
		if w, next := impl.TakeWord(whole, at); w != "" || next != -1 {
			t.Errorf("TakeWord at %d = %q, %d, want nothing and -1", at, w, next)
		}
	}
}

// What stands behind the end of a slice is not part of it, though its memory goes on.
func TestCutIsNotReadBehindItsEnd(t *testing.T) {
	whole := impl.PutWord("abc")
	if _, next := impl.TakeWord(whole[:3], 0); next != -1 {
		t.Error("a word was read behind the end")
	}
	if _, next := impl.TakeNum([]byte{128, 1}[:1], 0); next != -1 {
		t.Error("a number was read behind the end")
	}
	f, _ := impl.Frame([]byte{7})
	if _, ok := impl.Unframe(f[:len(f)-1]); ok {
		t.Error("a frame was read behind the end")
	}
}

func manyNums(n int) []int {
	list := make([]int, n)
	for i := range list {
		list[i] = (i*7919)%(2*impl.MaxNum+1) - impl.MaxNum
	}
	return list
}

func TestListIsTakenAgain(t *testing.T) {
	for _, list := range [][]int{
		nil, {}, {0}, {1, -1}, {impl.MaxNum, -impl.MaxNum, 0},
		manyNums(63), manyNums(64), manyNums(impl.MaxList),
	} {
		put := impl.PutNums(list)
		want := impl.PutNum(len(list))
		for _, x := range list {
			want = join(want, impl.PutNum(x))
		}
		if !bytes.Equal(put, want) {
			t.Errorf("PutNums of %d numbers = %v, want %v", len(list), put, want)
		}
		b := join([]byte{255}, put, []byte{0, 0})
		if got, next := impl.TakeNums(b, 1); !slices.Equal(got, list) || next != 1+len(put) {
			t.Errorf("%v was taken as %v, %d", list, got, next)
		}
	}
	for _, list := range [][]int{
		{impl.MaxNum + 1}, {0, -impl.MaxNum - 1}, {1, 2, math.MinInt}, {math.MaxInt, 1}, manyNums(impl.MaxList + 1),
	} {
		if got := impl.PutNums(list); len(got) != 0 {
			t.Errorf("PutNums of %d numbers = %v, want nothing", len(list), got)
		}
	}
}

func TestNoList(t *testing.T) {
	for _, b := range [][]byte{
		nil, {128}, {128, 0}, {1}, {1, 0}, {3, 0, 0}, {2}, {2, 128}, {2, 128, 0}, {4, 0, 128, 0}, {4, 129, 137, 122, 0},
		join(impl.PutNum(impl.MaxList+1), make([]byte, impl.MaxList+1)),
		join(impl.PutNum(-impl.MaxNum), make([]byte, 10)),
		join(impl.PutNum(impl.MaxNum), make([]byte, 10)),
	} {
		if list, next := impl.TakeNums(b, 0); len(list) != 0 || next != -1 {
			t.Errorf("TakeNums(%v, 0) = %v, %d, want nothing and -1", b, list, next)
		}
	}
	b := join(impl.PutNum(impl.MaxList), make([]byte, impl.MaxList))
	if list, next := impl.TakeNums(b, 0); len(list) != impl.MaxList || next != len(b) {
		t.Errorf("a list of %d was taken as %d, %d", impl.MaxList, len(list), next)
	}
	for n := range len(b) {
		if list, next := impl.TakeNums(b[:n], 0); len(list) != 0 || next != -1 {
			t.Fatalf("a list cut to %d bytes was taken as %v, %d", n, list, next)
		}
	}
	for _, at := range noPlaces(b) {
		if list, next := impl.TakeNums(b, at); len(list) != 0 || next != -1 {
			t.Errorf("TakeNums at %d = %v, %d, want nothing and -1", at, list, next)
		}
	}
}

func TestCheckOf(t *testing.T) {
	for _, c := range []struct {
		b    []byte
		want int
	}{
		{nil, 5}, {[]byte{}, 5}, {[]byte{0}, 1345}, {[]byte{1}, 1346}, {[]byte{255}, 1600},
		{[]byte("PS"), 383408}, {[]byte("PSx"), 138623},
	} {
		if got := impl.CheckOf(c.b); got != c.want {
			t.Errorf("CheckOf(%v) = %d, want %d", c.b, got, c.want)
		}
	}
	if got := impl.CheckOf(bytes.Repeat([]byte{255}, 100000)); got < 0 || got >= 999983 {
		t.Errorf("CheckOf of many bytes = %d", got)
	}
}

func someBytes(n int) []byte {
	b := make([]byte, n)
	for i := range b {
		b[i] = byte(i*i + 3*i + 11)
	}
	return b
}

func rawFrame(length []byte, body []byte, check []byte) []byte {
	return join([]byte("PS"), length, body, check)
}

func TestFrameIsOpenedAgain(t *testing.T) {
	f, ok := impl.Frame([]byte{7})
	if !ok || !bytes.Equal(f, []byte{'P', 'S', 2, 7, 144, 21}) {
		t.Errorf("Frame = %v, %v", f, ok)
	}
	for _, n := range []int{0, 1, 2, 63, 64, 1000, impl.MaxBytes - 1, impl.MaxBytes} {
		body := someBytes(n)
		f, ok := impl.Frame(body)
		want := rawFrame(impl.PutNum(n), body, impl.PutNum(impl.CheckOf(body)))
		if !ok || !bytes.Equal(f, want) {
			t.Errorf("Frame of %d bytes = %v, %v", n, f, ok)
		}
		if got, ok := impl.Unframe(f); !ok || !bytes.Equal(got, body) {
			t.Errorf("a frame of %d bytes was opened as %v, %v", n, got, ok)
		}
	}
	for _, n := range []int{impl.MaxBytes + 1, 2 * impl.MaxBytes} {
		if f, ok := impl.Frame(someBytes(n)); ok || len(f) != 0 {
			t.Errorf("Frame of %d bytes = %d bytes, %v", n, len(f), ok)
		}
	}
}

func TestNoFrame(t *testing.T) {
	body := someBytes(5)
	check := impl.PutNum(impl.CheckOf(body))
	long := someBytes(impl.MaxBytes + 1)
	nought := []byte{128, 0}
	for name, b := range map[string][]byte{
		"nothing":            nil,
		"head alone":         []byte("PS"),
		"half a head":        []byte("P"),
		"other head":         join([]byte("PT"), impl.PutNum(5), body, check),
		"small head":         join([]byte("ps"), impl.PutNum(5), body, check),
		"byte ahead":         join([]byte{0}, rawFrame(impl.PutNum(5), body, check)),
		"byte behind":        join(rawFrame(impl.PutNum(5), body, check), []byte{0}),
		"length below":       rawFrame(impl.PutNum(4), body, check),
		"length above":       rawFrame(impl.PutNum(6), body, check),
		"length below 0":     rawFrame(impl.PutNum(-5), body, check),
		"greatest length":    rawFrame(impl.PutNum(impl.MaxNum), body, check),
		"length written so":  rawFrame([]byte{138, 0}, body, check),
		"empty, written so":  rawFrame(nought, nil, impl.PutNum(5)),
		"no check":           rawFrame(impl.PutNum(5), body, nil),
		"other check":        rawFrame(impl.PutNum(5), body, impl.PutNum(impl.CheckOf(body)+1)),
		"check below 0":      rawFrame(impl.PutNum(5), body, impl.PutNum(-impl.CheckOf(body))),
		"check one round on": rawFrame(impl.PutNum(0), nil, impl.PutNum(5+999983)),
		"check written so":   rawFrame(impl.PutNum(0), nil, []byte{138, 0}),
		"too long":           rawFrame(impl.PutNum(len(long)), long, impl.PutNum(impl.CheckOf(long))),
	} {
		if got, ok := impl.Unframe(b); ok || len(got) != 0 {
			t.Errorf("%s: opened as %v, %v", name, got, ok)
		}
	}
}

func TestFrameIsNotOpenedWhenCut(t *testing.T) {
	for _, n := range []int{0, 1, 70} {
		f, _ := impl.Frame(someBytes(n))
		for end := range len(f) {
			if got, ok := impl.Unframe(f[:end]); ok || len(got) != 0 {
				t.Errorf("a frame of %d bytes cut to %d was opened as %v", n, end, got)
			}
			if got, ok := impl.Unframe(f[end+1:]); ok || len(got) != 0 {
				t.Errorf("a frame of %d bytes without its first %d was opened as %v", n, end+1, got)
			}
		}
	}
}

func openedAsItWas(f []byte, body []byte) bool {
	got, ok := impl.Unframe(f)
	return ok && bytes.Equal(got, body)
}

func TestTurnedByteIsSeen(t *testing.T) {
	for _, n := range []int{0, 1, 2, 70} {
		body := someBytes(n)
		f, _ := impl.Frame(body)
		from := len("PS") + len(impl.PutNum(n))
		for i := range f {
			for d := 1; d < 256; d++ {
				turned := bytes.Clone(f)
				turned[i] += byte(d)
				if openedAsItWas(turned, body) {
					t.Fatalf("byte %d of a frame of %d bytes can be %d", i, n, turned[i])
				}
				// The sum is modulo a prime, so that one other byte of the body always changes it.
				if _, ok := impl.Unframe(turned); ok && i >= from && i < from+n {
					t.Fatalf("byte %d of the body of %d bytes can be %d", i-from, n, turned[i])
				}
			}
		}
	}
}

func TestTurnedFrameIsSeen(t *testing.T) {
	for n := range 80 {
		body := someBytes(n)
		f, _ := impl.Frame(body)
		back := bytes.Clone(f)
		slices.Reverse(back)
		if openedAsItWas(back, body) {
			t.Errorf("a frame of %d bytes was opened backwards", n)
		}
		for k := 1; k < len(f); k++ {
			if openedAsItWas(join(f[k:], f[:k]), body) {
				t.Errorf("a frame of %d bytes was opened turned by %d", n, k)
			}
		}
		for i := 1; i < len(f); i++ {
			swapped := bytes.Clone(f)
			swapped[i-1], swapped[i] = swapped[i], swapped[i-1]
			if !bytes.Equal(swapped, f) && openedAsItWas(swapped, body) {
				t.Errorf("a frame of %d bytes was opened with %d and %d swapped", n, i-1, i)
			}
		}
	}
}

func TestWireAnswersAreNewMemory(t *testing.T) {
	body := []byte{1, 2, 3}
	f, _ := impl.Frame(body)
	f[3] = 99
	if !bytes.Equal(body, []byte{1, 2, 3}) {
		t.Error("Frame shares memory with its argument")
	}
	f, _ = impl.Frame(body)
	kept := bytes.Clone(f)
	got, _ := impl.Unframe(f)
	for i := range got {
		got[i] = 99
	}
	_ = append(got, 98, 97, 96)
	if !bytes.Equal(f, kept) {
		t.Error("Unframe shares memory with its argument")
	}
	f, _ = impl.Frame(nil)
	kept = bytes.Clone(f)
	got, _ = impl.Unframe(f)
	_ = append(got, 98, 97, 96)
	if !bytes.Equal(f, kept) {
		t.Error("what Unframe gives for an empty body has room in its argument")
	}
}

func TestWireArgumentsStay(t *testing.T) {
	list := []int{5, -5, impl.MaxNum}
	impl.PutNums(list)
	if !slices.Equal(list, []int{5, -5, impl.MaxNum}) {
		t.Error("PutNums writes into its argument")
	}
	room := append(make([]byte, 0, 100), 4, 't', '1', 2, 8)
	impl.TakeNum(room, 3)
	impl.TakeWord(room, 0)
	impl.TakeNums(room, 3)
	impl.CheckOf(room)
	impl.Frame(room)
	impl.Unframe(room)
	if !bytes.Equal(room, []byte{4, 't', '1', 2, 8}) || slices.Max(room[:100][5:]) != 0 {
		t.Error("bytes are written into an argument")
	}
}
