package impl

import (
	"errors"
	"slices"
	"strconv"
)

const (
	MaxNum   = 1000000
	MaxWord  = 12
	MaxBytes = 4000
	MaxList  = 300
)

// What may be wanted in a wire.
const (
	wantNum = iota
	wantWord
	wantList
	wantFrame
	wantFlag
	wantNode
)

const (
	groupBits = 7
	groupMore = 1 << groupBits
	// Three groups hold every folded number: 2 * MaxNum is below 1 << 21.
	groupCount = 3
)

const frameHead = "PS"

const (
	checkFirst = 5
	checkTimes = 269
	checkPrime = 999983
)

// A missing tells that what is wanted does not stand at that place of a wire.
type missing struct {
	want  int
	place int
}

func (m missing) Error() string {
	names := [...]string{wantNum: "number", wantWord: "word", wantList: "list", wantFrame: "frame", wantFlag: "flag", wantNode: "node"}
	return "no " + names[m.want] + " at place " + strconv.Itoa(m.place)
}

func isMissing(err error) bool {
	var m missing
	return errors.As(err, &m)
}

// A seal is a check sum, and where the frame that it closes ends.
type seal [2]int

// A wire is bytes that numbers and words are written behind and read from.
type wire []byte

// addNum wants a number.
func (w *wire) addNum(x int) {
	rest := foldNum(x)
	for rest >= groupMore {
		*w = append(*w, byte(rest%groupMore+groupMore))
		rest /= groupMore
	}
	*w = append(*w, byte(rest))
}

func (w *wire) addText(text string) {
	*w = append(*w, text...)
}

func (w *wire) addBytes(b []byte) {
	*w = append(*w, b...)
}

// cut has no room behind its end, so that nothing added to it reaches w.
func (w wire) cut(at int, count int) (wire, bool) {
	if at < 0 || count < 0 || at > len(w) || count > len(w)-at {
		return nil, false
	}
	end := at + count
	return w[at:end:end], true
}

func (w wire) numAt(at int) (int, int, error) {
	folded := 0
	for k := range groupCount {
		part, ok := w.cut(at, k+1)
		if !ok {
			break
		}
		group := int(part[k])
		folded += (group % groupMore) << (k * groupBits)
		if group >= groupMore {
			continue
		}
		// A last group of 0 behind others says nothing: the number has a shorter form.
		if group == 0 && k > 0 || folded > 2*MaxNum {
			break
		}
		return unfoldNum(folded), at + k + 1, nil
	}
	return 0, 0, missing{wantNum, at}
}

func (w wire) wordAt(at int) (string, int, error) {
	count, from, err := w.numAt(at)
	if err != nil {
		return "", 0, err
	}
	part, ok := w.cut(from, count)
	if !ok || !WordOk(string(part)) {
		return "", 0, missing{wantWord, at}
	}
	return string(part), from + count, nil
}

func (w wire) listAt(at int) ([]int, int, error) {
	count, next, err := w.numAt(at)
	if err != nil {
		return nil, 0, err
	}
	if count < 0 || count > MaxList {
		return nil, 0, missing{wantList, at}
	}
	list := make([]int, count)
	for i := range list {
		list[i], next, err = w.numAt(next)
		if err != nil {
			return nil, 0, err
		}
	}
	return list, next, nil
}

// frame answers a part of w itself.
func (w wire) frame() (wire, error) {
	head, ok := w.cut(0, len(frameHead))
	if !ok || string(head) != frameHead {
		return nil, missing{wantFrame, 0}
	}
	count, from, err := w.numAt(len(frameHead))
	if err != nil {
		return nil, err
	}
	body, ok := w.cut(from, count)
	if !ok || count > MaxBytes {
		return nil, missing{wantFrame, from}
	}
	check, end, err := w.numAt(from + count)
	if err != nil {
		return nil, err
	}
	told, found := seal{check, end}, seal{CheckOf(body), len(w)}
	if told != found {
		return nil, missing{wantFrame, from + count}
	}
	return body, nil
}

func isNum(x int) bool {
	return -MaxNum <= x && x <= MaxNum
}

func foldNum(x int) int {
	if x >= 0 {
		return 2 * x
	}
	return -2*x - 1
}

func unfoldNum(folded int) int {
	if folded%2 == 0 {
		return folded / 2
	}
	return -(folded + 1) / 2
}

func isDigit(c byte) bool {
	return '0' <= c && c <= '9'
}

func isLetter(c byte) bool {
	return 'a' <= c && c <= 'z'
}

func WordOk(w string) bool {
	if len(w) < 1 || len(w) > MaxWord || isDigit(w[0]) {
		return false
	}
	for i := range len(w) {
		if !isLetter(w[i]) && !isDigit(w[i]) {
			return false
		}
	}
	return true
}

func PutNum(x int) []byte {
	if !isNum(x) {
		return nil
	}
	var w wire
	w.addNum(x)
	return w
}

func TakeNum(b []byte, at int) (int, int) {
	x, next, err := wire(b).numAt(at)
	if isMissing(err) {
		return 0, -1
	}
	return x, next
}

func PutWord(w string) []byte {
	if !WordOk(w) {
		return nil
	}
	var out wire
	out.addNum(len(w))
	out.addText(w)
	return out
}

func TakeWord(b []byte, at int) (string, int) {
	word, next, err := wire(b).wordAt(at)
	if isMissing(err) {
		return "", -1
	}
	return word, next
}

func PutNums(list []int) []byte {
	if len(list) > MaxList {
		return nil
	}
	var w wire
	w.addNum(len(list))
	for _, x := range list {
		if !isNum(x) {
			return nil
		}
		w.addNum(x)
	}
	return w
}

func TakeNums(b []byte, at int) ([]int, int) {
	list, next, err := wire(b).listAt(at)
	if isMissing(err) {
		return nil, -1
	}
	return list, next
}

func CheckOf(b []byte) int {
	sum := checkFirst
	for _, c := range b {
		sum = (sum*checkTimes + int(c)) % checkPrime
	}
	return sum
}

func Frame(b []byte) ([]byte, bool) {
	if len(b) > MaxBytes {
		return nil, false
	}
	var w wire
	w.addText(frameHead)
	w.addNum(len(b))
	w.addBytes(b)
	w.addNum(CheckOf(b))
	return w, true
}

func Unframe(b []byte) ([]byte, bool) {
	body, err := wire(b).frame()
	if isMissing(err) {
		return nil, false
	}
	return slices.Clone(body), true
}
