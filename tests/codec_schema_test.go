package tests

import (
	"bytes"
	"math"
	"slices"
	"strings"
	"testing"

	"loop.example/g00844/impl"
)

// schemaPieces tells a number of tables that need not be how many there are, and writes what is no Table as well as what is one.
func schemaPieces(count int, s []impl.Table) []piece {
	pieces := numPieces(count)
	for _, x := range s {
		pieces = append(append(pieces, wordPieces(x.Name)...), numPieces(x.Width)...)
	}
	return pieces
}

func schemaBody(s []impl.Table) []byte { return written(schemaPieces(len(s), s)) }

func readsAsSchema(t *testing.T, name string, b []byte, want []impl.Table, ok bool) {
	t.Helper()
	got, gotOk := impl.DecodeSchema(b)
	if gotOk != ok || !slices.Equal(got, want) {
		t.Errorf("%s: DecodeSchema(%v) = %v, %v, want %v, %v", name, b, got, gotOk, want, ok)
	}
}

func noSchemaIn(t *testing.T, name string, b []byte) {
	t.Helper()
	readsAsSchema(t, name, b, nil, false)
}

// schemaAsWritten asks that what is read, if anything is, is written as just these bytes again; it tells the schema.
func schemaAsWritten(t *testing.T, b []byte) ([]impl.Table, bool) {
	t.Helper()
	s, ok := impl.DecodeSchema(b)
	if !ok {
		noSchemaIn(t, "refused", b)
		return nil, false
	}
	if again, ok := impl.EncodeSchema(s); !ok || !impl.SchemaOk(s) || !bytes.Equal(again, b) {
		t.Errorf("%v is read as %v, which is written as %v, %v", b, s, again, ok)
	}
	return s, true
}

func TestSchemaBytes(t *testing.T) {
	for _, c := range []struct {
		s    []impl.Table
		want []byte
	}{
		{nil, []byte{'P', 'S', 2, 0, 130, 21}},
		{[]impl.Table{}, []byte{'P', 'S', 2, 0, 130, 21}},
		{[]impl.Table{table("t1", 2), table("t2", 1)}, []byte{'P', 'S', 18, 4, 4, 't', '1', 4, 4, 't', '2', 2, 176, 140, 36}},
	} {
		if got, ok := impl.EncodeSchema(c.s); !ok || !bytes.Equal(got, c.want) {
			t.Errorf("EncodeSchema(%v) = %v, %v, want %v", c.s, got, ok, c.want)
		}
		readsAsSchema(t, "given bytes", c.want, c.s, true)
	}
}

// Promise 3, its second half, for bytes.
func TestSchemaBytesAreReadAsTheyWereWritten(t *testing.T) {
	for _, s := range ordinarySchemas() {
		b, ok := impl.EncodeSchema(s)
		if want := framed(schemaBody(s)); !ok || !bytes.Equal(b, want) {
			t.Errorf("EncodeSchema(%v) = %v, %v, want %v", s, b, ok, want)
		}
		readsAsSchema(t, "a schema", b, s, true)
		for _, other := range otherwise(schemaPieces(len(s), s)) {
			noSchemaIn(t, "a number written otherwise", framed(other))
		}
		body := schemaBody(s)
		noSchemaIn(t, "a length written otherwise", rawFrame(longer(rawNum(len(body)), 1), body, rawNum(impl.CheckOf(body))))
		noSchemaIn(t, "a check sum written otherwise", rawFrame(rawNum(len(body)), body, longer(rawNum(impl.CheckOf(body)), 1)))
	}
}

func TestCutOrTurnedBytesAreNotTheSchema(t *testing.T) {
	for _, s := range ordinarySchemas() {
		b, _ := impl.EncodeSchema(s)
		for end := range b {
			noSchemaIn(t, "cut behind", b[:end])
			noSchemaIn(t, "cut ahead", b[end+1:])
		}
		noSchemaIn(t, "a byte behind the frame", join(b, []byte{0}))
		for i := range b {
			for d := 1; d < 256; d++ {
				turned := bytes.Clone(b)
				turned[i] += byte(d)
				if got, ok := schemaAsWritten(t, turned); ok && slices.Equal(got, s) {
					t.Fatalf("%v is read with %d at %d", s, turned[i], i)
				}
			}
		}
	}
}

// The frame fits again, so that the reader of tables alone can see what was done.
func TestCutOrTurnedBodiesAreNotTheSchema(t *testing.T) {
	read := 0
	for _, s := range ordinarySchemas() {
		body := schemaBody(s)
		for end := range body {
			noSchemaIn(t, "a body cut behind", framed(body[:end]))
			if got, ok := schemaAsWritten(t, framed(body[end+1:])); ok && slices.Equal(got, s) {
				t.Errorf("%v is read without its first %d bytes", s, end+1)
			}
		}
		for i := range body {
			for d := 1; d < 256; d++ {
				turned := bytes.Clone(body)
				turned[i] += byte(d)
				got, ok := schemaAsWritten(t, framed(turned))
				if ok && slices.Equal(got, s) {
					t.Fatalf("%v is read with %d at %d of its body", s, turned[i], i)
				}
				if ok {
					read++
				}
			}
		}
		for c := range 256 {
			noSchemaIn(t, "a byte behind the last table", framed(body, []byte{byte(c)}))
		}
		noSchemaIn(t, "a table behind the last one", framed(body, schemaBody([]impl.Table{table("zz", 1)})[1:]))
	}
	if read < 100 {
		t.Errorf("only %d other schemas were read", read)
	}
}

func TestNoSchemaHasBytes(t *testing.T) {
	for name, s := range noSchemas() {
		if b, ok := impl.EncodeSchema(s); ok || len(b) != 0 {
			t.Errorf("%s: EncodeSchema = %v, %v", name, b, ok)
		}
		if b := schemaBody(s); len(b) <= impl.MaxBytes {
			noSchemaIn(t, name, framed(b))
		}
	}
}

func TestTablesToTheirLimits(t *testing.T) {
	// Ten names of one letter, so that no number but that of the tables is beyond its end.
	var many []impl.Table
	for _, c := range "abcdefghij" {
		many = append(many, table(string(c), 1))
	}
	for count := range 11 {
		s := many[:count]
		if count > impl.MaxTables {
			noSchemaIn(t, "too many tables", framed(schemaBody(s)))
		} else {
			readsAsSchema(t, "that many tables", framed(schemaBody(s)), s, true)
		}
		for told := -2; told <= 12; told++ {
			if told != count {
				noSchemaIn(t, "another number of tables", framed(written(schemaPieces(told, s))))
			}
		}
	}
	for _, told := range []int{impl.MaxNum, -impl.MaxNum, impl.MaxNum + 1, math.MaxInt, math.MinInt} {
		noSchemaIn(t, "a far number of tables", framed(written(schemaPieces(told, many[:1]))))
	}
	for width := -70; width <= 70; width++ {
		s := []impl.Table{table("a", 1), table("t1", width)}
		if 1 <= width && width <= impl.MaxCols {
			readsAsSchema(t, "a Width", framed(schemaBody(s)), s, true)
		} else {
			noSchemaIn(t, "a Width beyond its end", framed(schemaBody(s)))
		}
	}
	for length := range 20 {
		s := []impl.Table{table(strings.Repeat("a", length), 1)}
		if 1 <= length && length <= impl.MaxWord {
			readsAsSchema(t, "a Name", framed(schemaBody(s)), s, true)
		} else {
			noSchemaIn(t, "a Name beyond its end", framed(schemaBody(s)))
		}
	}
	for _, b := range [][]byte{nil, {}, []byte("PS"), {0}, framed(), framed([]byte{128}), framed([]byte{128, 0}), framed([]byte{0, 0}), framed([]byte{1}), framed([]byte{2}), framed(framed([]byte{0}))} {
		noSchemaIn(t, "bytes of no schema", b)
	}
}

// All bodies of up to seven of these letters are read as a schema just where they are the bytes of one.
func TestEveryShortSchemaBody(t *testing.T) {
	letters := []byte{0, 2, 4, 12, 14, 'a', 'b', 128}
	schemas := map[string][]impl.Table{string(schemaBody(nil)): nil}
	var tables []impl.Table
	everyBytes([]byte("ab"), 4, func(b []byte) {
		if len(b) > 0 {
			tables = append(tables, table(string(b), 1), table(string(b), 2), table(string(b), impl.MaxCols))
		}
	})
	for _, x := range tables {
		schemas[string(schemaBody([]impl.Table{x}))] = []impl.Table{x}
		for _, y := range tables {
			if x.Name < y.Name {
				schemas[string(schemaBody([]impl.Table{x, y}))] = []impl.Table{x, y}
			}
		}
	}
	read := 0
	everyBytes(letters, 7, func(body []byte) {
		want, there := schemas[string(body)]
		if got, ok := impl.DecodeSchema(framed(body)); ok != there || !slices.Equal(got, want) {
			t.Fatalf("the body %v is read as %v, %v, want %v, %v", body, got, ok, want, there)
		}
		if there {
			read++
		}
	})
	// That without tables; with one of one or two letters; and with the tables a and b; each Table with 3 Widths.
	if read != 1+3*(2+4)+3*3 {
		t.Errorf("%d schemas were read", read)
	}
	for body, s := range schemas {
		readsAsSchema(t, "one of all schemas", framed([]byte(body)), s, true)
	}
}

func TestSchemaBytesAreNewMemory(t *testing.T) {
	s := append(make([]impl.Table, 0, 20), table("t1", 2), table("t2", 1))
	kept := slices.Clone(s)
	full, _ := impl.EncodeSchema(s)
	b := append(make([]byte, 0, 100), full...)
	got, _ := impl.DecodeSchema(b)
	if !slices.Equal(s, kept) || !slices.Equal(s[:20][2:], make([]impl.Table, 18)) || !bytes.Equal(b, full) || slices.Max(b[:100][len(b):]) != 0 {
		t.Error("something is written into or behind an argument")
	}
	clear(b)
	if !slices.Equal(got, kept) {
		t.Error("DecodeSchema shares memory with its argument")
	}
	spoilTables(got)
	clear(full)
	if !slices.Equal(s, kept) {
		t.Error("EncodeSchema shares memory with its argument")
	}
}
