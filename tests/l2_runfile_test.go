package tests

import (
	"bytes"
	"hash/crc32"
	"math"
	"slices"
	"strings"
	"testing"

	"loop.example/s01854/impl"
)

const (
	tooLarge  = "\xff\xff\xff\xff\xff\xff\xff\xff\xff\x02" // 2^64 + 2^63 - 1 written out
	largest   = "\xff\xff\xff\xff\xff\xff\xff\xff\xff\x01" // 2^64 - 1
	elevenLow = "\x80\x80\x80\x80\x80\x80\x80\x80\x80\x80\x01"
)

func fourEntries() []impl.Entry {
	return []impl.Entry{
		put("ab", "f", "q", 300, "xy"),
		del("ab", "f", "q", 7),
		delCol("abc", "g", "", math.MaxUint64),
		put("b\xff", "f\xe9", "\xc3\xa4", 0, ""),
	}
}

func wantDecode(t *testing.T, name string, file string, err int64) {
	t.Helper()
	got := impl.DecodeRun([]byte(file))
	if got.Err != err || len(got.Run.Entries) != 0 {
		t.Errorf("%s: DecodeRun gives %#v, want the error %d", name, got, err)
	}
}

// wantRead holds both readers against the model.
func wantRead(t *testing.T, name string, file string, rows []string) {
	t.Helper()
	entries, err := modelDecode(file)
	got := impl.DecodeRun([]byte(file))
	if got.Err != err || !slices.Equal(got.Run.Entries, entries) {
		t.Errorf("%s: DecodeRun of %q gives %#v, want %d and %#v", name, file, got, err, entries)
	}
	for _, row := range rows {
		if got, want := impl.SeekRun([]byte(file), row), modelSeek(file, row); got != want {
			t.Errorf("%s: SeekRun of %q for %q gives %#v, want %#v", name, file, row, got, want)
		}
	}
}

func TestCrc32Known(t *testing.T) {
	for text, want := range map[string]uint32{
		"123456789": 0xcbf43926,
		"":          0,
		"\x00":      0xd202ef8d,
		"\xff":      0xff000000,
		"a":         0xe8b7be43,
		"\x00\x00":  0x41d912ff,
	} {
		if got := impl.Crc32([]byte(text)); got != want {
			t.Errorf("Crc32 of %q: %#x, want %#x", text, got, want)
		}
	}
	if impl.Crc32(nil) != 0 {
		t.Errorf("Crc32 of nil: %#x", impl.Crc32(nil))
	}
}

func TestCrc32ByModel(t *testing.T) {
	d := &dice{state: 21}
	text := []byte{}
	for i := 0; i < 600; i++ {
		single := []byte{byte(i)}
		if got, want := impl.Crc32(single), modelCrc(string(single)); got != want {
			t.Errorf("Crc32 of %q: %#x, want %#x", single, got, want)
		}
		text = append(text, byte(d.roll(256)))
		if got := impl.Crc32(text); got != modelCrc(string(text)) || got != crc32.ChecksumIEEE(text) {
			t.Fatalf("Crc32 of %q: %#x, want %#x", text, got, modelCrc(string(text)))
		}
	}
}

func TestEncodeRunBytes(t *testing.T) {
	run := impl.Run{Entries: fourEntries()}
	first := "\x00\x02ab\x01f\x01q\xac\x02\x00\x02xy" + "\x02\x00\x01f\x01q\x07\x01\x00" + "\x02\x01c\x01g\x00" + largest + "\x02\x00"
	second := "\x00\x02b\xff\x02f\xe9\x02\xc3\xa4\x00\x00\x00"
	index := "\x02\x29\x03\x02ab\x0d\x01\x02b\xff"
	want := "RUN1" + first + modelFixed(modelCrc(first)) + second + modelFixed(modelCrc(second)) + index + modelFixed(modelCrc(index)) + "\x0b\x00\x00\x00"
	if got := string(impl.EncodeRun(run, 3)); got != want {
		t.Errorf("got  %q\nwant %q", got, want)
	}
	empty := "RUN1\x00" + "\x8d\xef\x02\xd2" + "\x01\x00\x00\x00"
	for _, per := range []int64{1, 2, impl.PerMax} {
		if got := string(impl.EncodeRun(impl.Run{}, per)); got != empty {
			t.Errorf("no entries, per %d: %q, want %q", per, got, empty)
		}
	}
}

func TestEncodeRunRefuses(t *testing.T) {
	run := impl.Run{Entries: fourEntries()}
	for _, per := range []int64{math.MinInt64, -1, 0, impl.PerMax + 1, 1 << 32, math.MaxInt64} {
		if got := impl.EncodeRun(run, per); len(got) != 0 {
			t.Errorf("per %d: %q", per, got)
		}
		if got := impl.EncodeRun(impl.Run{}, per); len(got) != 0 {
			t.Errorf("no entries, per %d: %q", per, got)
		}
	}
	for name, entries := range map[string][]impl.Entry{
		"the zero entry":       {{}},
		"a del with a value":   {{Row: "r", Fam: "f", Kind: impl.KindDel, Val: "v"}},
		"rows out of order":    {put("b", "f", "", 1, ""), put("a", "f", "", 1, "")},
		"one key twice":        {put("a", "f", "", 1, ""), del("a", "f", "", 1)},
		"two deletes a column": {delCol("a", "f", "", 2), delCol("a", "f", "", 1)},
		"RunMax + 1 entries":   manyPuts("r", impl.RunMax+1),
	} {
		if got := impl.EncodeRun(impl.Run{Entries: entries}, 2); len(got) != 0 {
			t.Errorf("%s: %d bytes", name, len(got))
		}
	}
}

// runsForFiles has the sizes 0, 1 and many, shared prefixes in and across blocks, and the edges of all fields.
func runsForFiles() map[string][]impl.Entry {
	long := func(n int, last string) string { return strings.Repeat("\xff", n-len(last)) + last }
	d := &dice{state: 5}
	runs := map[string][]impl.Entry{
		"none":         nil,
		"one":          {put("r", "f", "q", 1, "v")},
		"four":         fourEntries(),
		"the least":    {put("\x00", "\x00", "", 0, "")},
		"the largest":  {put(long(64, "\xfe"), long(16, ""), long(64, ""), math.MaxUint64, long(200, "")), put(long(64, ""), long(16, ""), long(64, ""), 0, long(200, ""))},
		"one row":      {delCol("r", "f", "q", 9), put("r", "f", "q", 8, "v"), del("r", "f", "q", 7), put("r", "f", "r", 8, "v"), put("r", "g", "", 1, "")},
		"prefixes":     {put("a", "f", "", 1, ""), put("aa", "f", "", 1, ""), put("aaa", "f", "", 1, ""), put("aaab", "f", "", 1, ""), put("aab", "f", "", 1, ""), put("b", "f", "", 1, "")},
		"lengths":      {put("r", "f", "q", 127, long(127, "")), put("s", "f", "q", 128, long(128, "")), put("t", "f", "q", 16383, ""), put("u", "f", "q", 16384, "")},
		"1000 entries": manyPuts("row", 1000),
		"1001 entries": manyPuts("row", 1001),
		"RunMax":       manyPuts("row", impl.RunMax),
	}
	for i := 0; i < 20; i++ {
		name := "generated " + string([]byte{byte('a' + i)})
		runs[name] = modelBuild(someWrites(d, 1+d.roll(40), 7))
	}
	return runs
}

func TestDecodeRunGivesTheRunBack(t *testing.T) {
	for name, entries := range runsForFiles() {
		for _, per := range []int{1, 2, 3, 7, 999, impl.PerMax} {
			file := impl.EncodeRun(impl.Run{Entries: entries}, int64(per))
			if want := modelEncode(entries, per); string(file) != want {
				t.Errorf("%s, per %d: EncodeRun gives other bytes than the model", name, per)
			}
			got := impl.DecodeRun(file)
			if got.Err != impl.FileOk || !slices.Equal(got.Run.Entries, entries) {
				t.Errorf("%s, per %d: the run does not come back, error %d", name, per, got.Err)
			}
		}
	}
}

func TestDecodeRunFrame(t *testing.T) {
	good := modelEncode(fourEntries(), 2)
	empty := modelEncode(nil, 2)
	for n := 0; n < 13; n++ {
		wantDecode(t, "too few bytes", good[:n], impl.FileForm)
		wantDecode(t, "too few bytes", empty[:n], impl.FileForm)
	}
	wantDecode(t, "twelve bytes, no index", "RUN1"+"\x00\x00\x00\x00"+"\x00\x00\x00\x00", impl.FileForm)
	wantDecode(t, "twelve bytes, no index, a wrong checksum", "RUN1"+"\x01\x00\x00\x00"+"\x00\x00\x00\x00", impl.FileForm)
	wantDecode(t, "thirteen bytes, no index, a wrong checksum", "RUN1"+"\x00"+"\x01\x00\x00\x00"+"\x00\x00\x00\x00", impl.FileSum)
	for _, head := range []string{"run1", "RUN2", "sUN1", "R\x00N1", "1NUR"} {
		wantDecode(t, head, head+good[4:], impl.FileForm)
		wantDecode(t, head, head+empty[4:], impl.FileForm)
	}
	whole := good[:len(good)-4]
	wantDecode(t, "an index from offset 4", whole+modelFixed(uint32(len(good)-12)), impl.FileSum)
	for _, m := range []uint32{uint32(len(good) - 11), uint32(len(good) - 8), uint32(len(good)), 1 << 31, math.MaxUint32} {
		wantDecode(t, "an index from before offset 4", whole+modelFixed(m), impl.FileForm)
	}
	wantDecode(t, "no index, a checksum that is not 0", whole[:len(whole)-4]+"\x01\x00\x00\x00"+modelFixed(0), impl.FileSum)
	wantDecode(t, "no index, its checksum", whole[:len(whole)-4]+"\x00\x00\x00\x00"+modelFixed(0), impl.FileForm)
	if got := impl.DecodeRun([]byte(empty)); got.Err != impl.FileOk || len(got.Run.Entries) != 0 {
		t.Errorf("13 bytes: %#v", got)
	}
	for name, file := range map[string]string{"something in front": "x" + good, "something behind": good + "x", "nil": ""} {
		wantRead(t, name, file, []string{"a"})
	}
}

func TestDecodeRunIndex(t *testing.T) {
	one := blockOf(fourEntries()...)
	size, count, row := modelNumber(one.size), "\x04", "\x02ab"
	for name, index := range map[string]string{
		"empty":                        "",
		"no blocks, two bytes":         "\x80\x00",
		"no blocks for one":            "\x00",
		"two blocks for one":           "\x02" + size + count + row,
		"two blocks, the last empty":   "\x02" + size + count + row + "\x00\x01\x00",
		"one block in two bytes":       "\x81\x00" + size + count + row,
		"size in too many bytes":       "\x01" + string([]byte{size[0] + 128, 0}) + count + row,
		"count in too many bytes":      "\x01" + size + "\x84\x00" + row,
		"row length in too many":       "\x01" + size + count + "\x82\x00ab",
		"blocks not below 2^64":        tooLarge + size + count + row,
		"size not below 2^64":          "\x01" + tooLarge + count + row,
		"count not below 2^64":         "\x01" + size + tooLarge + row,
		"row length not below 2^64":    "\x01" + size + count + tooLarge + "ab",
		"a number of eleven bytes":     "\x01" + size + elevenLow + row,
		"a number without its end":     "\x01" + size + "\x84",
		"count 2^64 + 4, wrapped":      "\x01" + size + "\x84\x80\x80\x80\x80\x80\x80\x80\x80\x02" + row,
		"the largest number of blocks": largest + size + count + row,
		"the largest size":             "\x01" + largest + count + row,
		"the largest count":            "\x01" + size + largest + row,
		"the largest row length":       "\x01" + size + count + largest + "ab",
		"half of the largest size":     "\x01\xff\xff\xff\xff\xff\xff\xff\xff\x7f" + count + row,
		"no entries":                   "\x01" + size + "\x00" + row,
		"1001 entries":                 "\x01" + size + "\xe9\x07" + row,
		"a byte left over":             "\x01" + size + count + row + "\x00",
		"a row that is cut":            "\x01" + size + count + "\x02a",
		"no row":                       "\x01" + size + count,
		"no count":                     "\x01" + size,
		"no size":                      "\x01",
		"10001 blocks":                 modelNumber(10001) + size + count + row,
	} {
		file := framed([]rawBlock{one}, index)
		wantDecode(t, name, file, impl.FileForm)
		wantRead(t, name, file, []string{"", "b"})
		spoiled := file[:6] + "?" + file[7:]
		wantDecode(t, name+", with a block's wrong checksum", spoiled, impl.FileForm)
	}
	wantDecode(t, "1000 entries told", framed([]rawBlock{one}, "\x01"+size+"\xe8\x07"+row), impl.FileBody)
	wrongIndex := framed([]rawBlock{one}, "\x01"+size+"\x00"+row)
	at := len(wrongIndex) - 8
	wantDecode(t, "a wrong index with a wrong checksum", wrongIndex[:at]+"\x00\x00\x00\x00"+wrongIndex[at+4:], impl.FileSum)
}

func TestDecodeRunBlocksFill(t *testing.T) {
	parts := modelBlocks(fourEntries(), 2)
	for name, change := range map[string]func(a, b *rawBlock){
		"the first a byte longer":       func(a, b *rawBlock) { a.size++ },
		"the last a byte longer":        func(a, b *rawBlock) { b.size++ },
		"the first a byte shorter":      func(a, b *rawBlock) { a.size-- },
		"the last a byte shorter":       func(a, b *rawBlock) { b.size-- },
		"a body without bytes":          func(a, b *rawBlock) { b.size = 0 },
		"as long as the file":           func(a, b *rawBlock) { b.size = 100 },
		"sizes that overrun 2^64":       func(a, b *rawBlock) { a.size += 1 << 63; b.size += 1 << 63 },
		"the checksum within the index": func(a, b *rawBlock) { b.size += 4 },
	} {
		a, b := parts[0], parts[1]
		change(&a, &b)
		file := framed(parts, indexOf([]rawBlock{a, b}))
		wantDecode(t, name, file, impl.FileForm)
		wantRead(t, name, file, []string{"", "abc", "z"})
	}
	a, b := parts[0], parts[1]
	a.size++
	b.size--
	wantDecode(t, "a byte of the last told as the first one's", framed(parts, indexOf([]rawBlock{a, b})), impl.FileSum)
	shifted := framed(parts, indexOf(parts))
	wantDecode(t, "a byte between blocks and index", shifted[:len(shifted)-8-len(indexOf(parts))]+"\x00"+shifted[len(shifted)-8-len(indexOf(parts)):], impl.FileForm)
	empty := framed([]rawBlock{{}}, "\x00")
	wantDecode(t, "bytes of no block", empty, impl.FileForm)
}

func TestDecodeRunLargeFiles(t *testing.T) {
	entries := manyPuts("row", impl.RunMax+1)
	blocks := modelBlocks(entries, 1)
	if got := impl.DecodeRun([]byte(fileOf(blocks[:impl.RunMax]...))); got.Err != 0 || len(got.Run.Entries) != impl.RunMax {
		t.Errorf("RunMax blocks: error %d, %d entries", got.Err, len(got.Run.Entries))
	}
	wantDecode(t, "RunMax + 1 blocks", fileOf(blocks...), impl.FileForm)
	blocks = modelBlocks(entries, impl.PerMax)
	wantDecode(t, "RunMax + 1 entries", fileOf(blocks...), impl.FileBody)
	blocks[10].sum++
	wantDecode(t, "RunMax + 1 entries, a wrong checksum at the last", fileOf(blocks...), impl.FileSum)
	wantDecode(t, "1001 entries in a block", fileOf(blockOf(entries[:1001]...)), impl.FileForm)
	if got := impl.DecodeRun([]byte(fileOf(blockOf(entries[:1000]...)))); got.Err != 0 {
		t.Errorf("1000 entries in a block: error %d", got.Err)
	}
}

func TestDecodeRunBodies(t *testing.T) {
	e := "\x00\x02ab\x01f\x01q\x05\x00\x01v"
	long := func(n int) string { return modelString(strings.Repeat("a", n)) }
	for name, c := range map[string]struct {
		body  string
		count int
	}{
		"a byte left over":            {e + "\x00", 1},
		"an entry left over":          {e + "\x02\x00\x01f\x01q\x04\x01\x00", 1},
		"an entry too few":            {e, 2},
		"nothing":                     {"", 1},
		"a shared count at the first": {"\x01\x01b\x01f\x01q\x05\x00\x01v", 1},
		"the largest shared count":    {largest + "\x01b\x01f\x01q\x05\x00\x01v", 1},
		"a shared count too small":    {e + "\x01\x01c\x01f\x01q\x05\x00\x00" + "\x01\x01c\x01g\x01q\x05\x00\x00", 3},
		"none shared where one is":    {e + "\x00\x02ac\x01f\x01q\x05\x00\x00", 2},
		"a rest that is all shared":   {e + "\x00\x02ab\x01g\x01q\x05\x00\x00", 2},
		"more shared than there is":   {e + "\x03\x01c\x01f\x01q\x05\x00\x00", 2},
		"the largest count, later":    {e + largest + "\x01c\x01f\x01q\x05\x00\x00", 2},
		"shared in two bytes":         {"\x80\x00\x02ab\x01f\x01q\x05\x00\x01v", 1},
		"row length in two bytes":     {"\x00\x82\x00ab\x01f\x01q\x05\x00\x01v", 1},
		"fam length in two bytes":     {"\x00\x02ab\x81\x00f\x01q\x05\x00\x01v", 1},
		"qual length in two bytes":    {"\x00\x02ab\x01f\x81\x00q\x05\x00\x01v", 1},
		"ts in two bytes":             {"\x00\x02ab\x01f\x01q\x85\x00\x00\x01v", 1},
		"kind in two bytes":           {"\x00\x02ab\x01f\x01q\x05\x80\x00\x01v", 1},
		"val length in two bytes":     {"\x00\x02ab\x01f\x01q\x05\x00\x81\x00v", 1},
		"ts not below 2^64":           {"\x00\x02ab\x01f\x01q" + tooLarge + "\x00\x01v", 1},
		"ts of eleven bytes":          {"\x00\x02ab\x01f\x01q" + elevenLow + "\x00\x01v", 1},
		"kind 3":                      {"\x00\x02ab\x01f\x01q\x05\x03\x00", 1},
		"kind 2^64 - 1":               {"\x00\x02ab\x01f\x01q\x05" + largest + "\x00", 1},
		"kind 2^32":                   {"\x00\x02ab\x01f\x01q\x05\x80\x80\x80\x80\x10\x01v", 1},
		"a del with a value":          {"\x00\x02ab\x01f\x01q\x05\x01\x01v", 1},
		"a delcol with a value":       {"\x00\x02ab\x01f\x01q\x05\x02\x01v", 1},
		"no fam":                      {"\x00\x02ab\x00\x01q\x05\x00\x01v", 1},
		"fam of 17":                   {"\x00\x02ab" + long(17) + "\x01q\x05\x00\x01v", 1},
		"qual of 65":                  {"\x00\x02ab\x01f" + long(65) + "\x05\x00\x01v", 1},
		"val of 201":                  {"\x00\x02ab\x01f\x01q\x05\x00" + long(201), 1},
		"a second row of 65":          {e + "\x02" + long(63) + "\x01f\x01q\x05\x00\x00", 2},
		"a value that is cut":         {"\x00\x02ab\x01f\x01q\x05\x00\x02v", 1},
		"a value of 2^64 - 1":         {"\x00\x02ab\x01f\x01q\x05\x00" + largest + "v", 1},
		"a row of 2^63":               {"\x00\x80\x80\x80\x80\x80\x80\x80\x80\x80\x01ab\x01f\x01q\x05\x00\x01v", 1},
		"cut in the middle":           {"\x00\x02ab\x01f\x01q", 1},
		"cut within a number":         {"\x00\x02ab\x01f\x01q\x85", 1},
	} {
		b := bodyBlock(c.body, c.count, "ab")
		wantDecode(t, name, fileOf(b), impl.FileBody)
		wantRead(t, name, fileOf(b), []string{"", "ab", "z"})
		b.sum++
		wantDecode(t, name+", with a wrong checksum", fileOf(b), impl.FileSum)
	}
	if got := impl.DecodeRun([]byte(fileOf(bodyBlock(e, 1, "ab")))); got.Err != impl.FileOk {
		t.Errorf("the body that the others are made from: %#v", got)
	}
}

func TestDecodeRunFirstRows(t *testing.T) {
	for _, row := range []string{"", "a", "abc", "ac", "ab\x00", "AB", strings.Repeat("a", 65)} {
		b := blockOf(fourEntries()...)
		b.row = row
		wantDecode(t, "the index's row "+row, fileOf(b), impl.FileBody)
		wantRead(t, "the index's row "+row, fileOf(b), []string{"", "ab", "z"})
	}
	none := bodyBlock("\x00\x00\x01f\x01q\x05\x00\x01v", 1, "")
	wantDecode(t, "an empty row", fileOf(none), impl.FileBody)
	long := strings.Repeat("a", 65)
	wantDecode(t, "a row of 65", fileOf(bodyBlock("\x00"+modelString(long)+"\x01f\x01q\x05\x00\x01v", 1, long)), impl.FileBody)
	second := modelBlocks(fourEntries(), 2)
	second[1].row = "ab"
	wantDecode(t, "the second block's row", fileOf(second...), impl.FileBody)
}

func TestDecodeRunFirstErrorDecides(t *testing.T) {
	good := blockOf(put("m", "f", "", 1, ""))
	sum := blockOf(put("n", "f", "", 1, ""))
	sum.sum ^= 1 << 31
	body := bodyBlock("\x00", 1, "o")
	both := body
	both.sum++
	for name, c := range map[string]struct {
		blocks []rawBlock
		want   int64
	}{
		"sum, body":               {[]rawBlock{sum, body}, impl.FileSum},
		"body, sum":               {[]rawBlock{body, sum}, impl.FileBody},
		"both in one":             {[]rawBlock{both}, impl.FileSum},
		"both in one, body":       {[]rawBlock{both, body}, impl.FileSum},
		"body, both in one":       {[]rawBlock{body, both}, impl.FileBody},
		"good, sum, body":         {[]rawBlock{good, sum, body}, impl.FileSum},
		"good, body, sum":         {[]rawBlock{good, body, sum}, impl.FileBody},
		"good, good, sum":         {[]rawBlock{good, good, sum}, impl.FileSum},
		"good, good":              {[]rawBlock{good, good}, impl.FileBody},
		"out of order, sum":       {[]rawBlock{good, blockOf(put("a", "f", "", 1, "")), sum}, impl.FileSum},
		"out of order, body":      {[]rawBlock{good, blockOf(put("a", "f", "", 1, "")), body}, impl.FileBody},
		"out of order":            {[]rawBlock{good, blockOf(put("a", "f", "", 1, ""))}, impl.FileBody},
		"out of order in one":     {[]rawBlock{blockOf(put("b", "f", "", 1, ""), put("a", "f", "", 1, ""))}, impl.FileBody},
		"one key in two":          {[]rawBlock{good, blockOf(del("m", "f", "", 1))}, impl.FileBody},
		"two deletes of a column": {[]rawBlock{blockOf(delCol("m", "f", "", 2)), blockOf(delCol("m", "f", "", 1))}, impl.FileBody},
	} {
		wantDecode(t, name, fileOf(c.blocks...), c.want)
		wantRead(t, name, fileOf(c.blocks...), []string{"", "a", "b", "m", "n", "o", "p"})
	}
	uneven := []rawBlock{blockOf(put("a", "f", "", 1, "")), blockOf(put("b", "f", "", 1, ""), put("c", "f", "", 1, "")), blockOf(put("d", "f", "", 1, ""))}
	if got := impl.DecodeRun([]byte(fileOf(uneven...))); got.Err != impl.FileOk || len(got.Run.Entries) != 4 {
		t.Errorf("blocks of one and two entries: %#v", got)
	}
}

// evenBlocks tells whether EncodeRun could have made such blocks, and with which per.
func evenBlocks(blocks []rawBlock) (int64, bool) {
	if len(blocks) == 0 {
		return 1, true
	}
	per := blocks[0].count
	for i, b := range blocks {
		if b.count > per || b.count < per && i < len(blocks)-1 {
			return 0, false
		}
	}
	return int64(per), true
}

// checkChanged holds a changed file against the model, and rebuilds it where it is right all the same.
func checkChanged(t *testing.T, file string, rows []string) {
	t.Helper()
	wantRead(t, "a changed file", file, rows)
	got := impl.DecodeRun([]byte(file))
	if got.Err != impl.FileOk {
		return
	}
	blocks, _ := modelOpen(file)
	if per, even := evenBlocks(blocks); even && string(impl.EncodeRun(got.Run, per)) != file {
		t.Errorf("%q is read without an error but not rebuilt with per %d", file, per)
	}
}

func smallRun() []impl.Entry {
	return []impl.Entry{put("aa", "f", "q", 130, "x"), del("ab", "f", "", 2), put("ab", "g", "", 2, ""), delCol("c", "g", "p", 2), put("c", "g", "p", 1, "y")}
}

func TestEveryByteChanged(t *testing.T) {
	rows := []string{"", "aa", "ab", "ac", "d"}
	for _, per := range []int{1, 2, 5} {
		file := modelEncode(smallRun(), per)
		for i := range file {
			for _, to := range []byte{0, 1, file[i] - 1, file[i] + 1, file[i] ^ 128, 255} {
				checkChanged(t, file[:i]+string([]byte{to})+file[i+1:], rows)
			}
			checkChanged(t, file[:i], rows)
			checkChanged(t, file[i:], rows)
			checkChanged(t, file[:i]+file[i+1:], rows)
			checkChanged(t, file[:i]+"\x00"+file[i:], rows)
		}
	}
}

// Behind right checksums every change is seen by the forms alone.
func TestEveryByteChangedWithRightSums(t *testing.T) {
	rows := []string{"", "ab", "b", "d"}
	for _, per := range []int{2, 5} {
		blocks := modelBlocks(smallRun(), per)
		for k, b := range blocks {
			for i := range b.body {
				for to := 0; to < 256; to++ {
					changed := slices.Clone(blocks)
					changed[k] = bodyBlock(b.body[:i]+string([]byte{byte(to)})+b.body[i+1:], int(b.count), b.row)
					checkChanged(t, fileOf(changed...), rows)
				}
				changed := slices.Clone(blocks)
				changed[k] = bodyBlock(b.body[:i]+b.body[i+1:], int(b.count), b.row)
				checkChanged(t, fileOf(changed...), rows)
			}
		}
		index := indexOf(blocks)
		for i := range index {
			for to := 0; to < 256; to++ {
				checkChanged(t, framed(blocks, index[:i]+string([]byte{byte(to)})+index[i+1:]), rows)
			}
			checkChanged(t, framed(blocks, index[:i]+index[i+1:]), rows)
			checkChanged(t, framed(blocks, index[:i]+"\x80"+index[i:]), rows)
		}
	}
}

func TestAnyBytes(t *testing.T) {
	d := &dice{state: 77}
	for n := 0; n < 3000; n++ {
		text := make([]byte, d.roll(40))
		for i := range text {
			text[i] = byte(d.roll(256) >> d.roll(8))
		}
		rows := []string{"", string(text[:min(2, len(text))])}
		wantRead(t, "any bytes", string(text), rows)
		wantRead(t, "any bytes behind the head", "RUN1"+string(text), rows)
		wantRead(t, "any index", framed(nil, string(text)), rows)
		b := bodyBlock(string(text), 1+d.roll(2), "a")
		wantRead(t, "any body", fileOf(b), rows)
	}
}

func TestSeekRunBlocks(t *testing.T) {
	entries := []impl.Entry{
		put("b", "f", "", 1, "0"), put("d", "f", "", 1, "1"),
		put("d", "g", "", 1, "2"), put("d", "h", "", 1, "3"),
		put("d", "i", "", 1, "4"), put("f", "f", "", 1, "5"),
		put("h", "f", "", 1, "6"),
	}
	file := impl.EncodeRun(impl.Run{Entries: entries}, 2)
	for _, c := range []struct {
		row  string
		at   int
		read int64
	}{
		{"", 0, 1}, {"a", 0, 1}, {"b", 0, 1},
		{"b\x00", 1, 1}, {"c", 1, 1}, {"d", 1, 1},
		{"d\x00", 5, 1}, {"e", 5, 1}, {"f", 5, 1},
		{"f\x00", 6, 2}, {"g", 6, 2}, {"h", 6, 2},
		{"h\x00", -1, 1}, {"i", -1, 1}, {"\xff\xff", -1, 1}, {strings.Repeat("z", 300), -1, 1},
	} {
		want := impl.SeekRes{Read: c.read}
		if c.at >= 0 {
			want.Found = true
			want.Entry = entries[c.at]
		}
		if got := impl.SeekRun(file, c.row); got != want {
			t.Errorf("row %q: %#v, want %#v", c.row, got, want)
		}
	}
	for _, row := range []string{"", "a", "\xff"} {
		if got := impl.SeekRun(impl.EncodeRun(impl.Run{}, 1), row); got != (impl.SeekRes{}) {
			t.Errorf("no blocks, row %q: %#v", row, got)
		}
	}
}

func TestSeekRunByModel(t *testing.T) {
	for name, entries := range runsForFiles() {
		if len(entries) > 100 {
			continue
		}
		var rows []string
		for _, e := range entries {
			rows = append(rows, e.Row, e.Row[:len(e.Row)-1], e.Row+"\x00", e.Row+"\xff")
		}
		rows = append(rows, "", "\xff\xff\xff")
		for _, per := range []int{1, 2, 3, impl.PerMax} {
			file := modelEncode(entries, per)
			wantRead(t, name, file, rows)
			for _, row := range rows {
				at := slices.IndexFunc(entries, func(e impl.Entry) bool { return e.Row >= row })
				got := impl.SeekRun([]byte(file), row)
				if got.Found != (at >= 0) || at >= 0 && got.Entry != entries[at] {
					t.Errorf("%s, per %d, row %q: %#v is not the first entry", name, per, row, got)
				}
			}
		}
	}
}

// Damage is laid into every byte of the file behind its head, one at a time.
func TestSeekRunDamage(t *testing.T) {
	entries := manyPuts("r", 9)
	blocks := modelBlocks(entries, 2)
	file := fileOf(blocks...)
	for _, row := range []string{"", entries[0].Row, entries[1].Row, entries[2].Row, entries[3].Row + "\x00", entries[8].Row, "z"} {
		sound := impl.SeekRun([]byte(file), row)
		first := 0
		for i, b := range blocks {
			if b.row < row {
				first = i
			}
		}
		at := 4
		for k, b := range blocks {
			for range len(b.body) + 4 {
				damaged := []byte(file)
				damaged[at] ^= 1 << (at % 8)
				got := impl.SeekRun(damaged, row)
				want := sound
				if k >= first && k < first+int(sound.Read) {
					want = impl.SeekRes{Err: impl.FileSum, Read: int64(k - first + 1)}
				}
				if got != want {
					t.Errorf("row %q, damage at %d in block %d: %#v, want %#v", row, at, k, got, want)
				}
				at++
			}
		}
		for ; at < len(file); at++ {
			damaged := []byte(file)
			damaged[at] ^= 1
			if got := impl.SeekRun(damaged, row); got.Err == impl.FileOk || got != (impl.SeekRes{Err: got.Err}) {
				t.Errorf("row %q, damage at %d behind the blocks: %#v", row, at, got)
			}
		}
	}
}

func TestSeekRunTellsBodiesToo(t *testing.T) {
	blocks := modelBlocks(manyPuts("r", 6), 2)
	rows := []string{"", blocks[0].row, blocks[1].row, blocks[1].row + "\x00", blocks[2].row, "z"}
	for k := range blocks {
		for _, change := range []func(b *rawBlock){
			func(b *rawBlock) { *b = bodyBlock(b.body+"\x00", int(b.count), b.row) },
			func(b *rawBlock) { b.count++ },
			func(b *rawBlock) { b.row = b.row[:1] },
			func(b *rawBlock) { b.body = strings.ToUpper(b.body); b.sum = modelCrc(b.body) },
		} {
			changed := slices.Clone(blocks)
			change(&changed[k])
			wantRead(t, "a wrong body", fileOf(changed...), rows)
		}
	}
	wrong := slices.Clone(blocks)
	wrong[1] = bodyBlock(blocks[1].body+"\x00", 2, blocks[1].row)
	if got := impl.SeekRun([]byte(fileOf(wrong...)), blocks[1].row); got != (impl.SeekRes{Err: impl.FileBody, Read: 2}) {
		t.Errorf("a byte left over behind the entry asked for: %#v", got)
	}
	if got := impl.SeekRun([]byte(fileOf(wrong...)), "r"); !got.Found || got.Read != 1 {
		t.Errorf("a wrong body that is not read: %#v", got)
	}
}

// Step 5 is not done by a seek, so neither the rows of the index nor those in a block need be in order.
func TestSeekRunOutOfOrder(t *testing.T) {
	blocks := []rawBlock{
		blockOf(put("k", "f", "", 1, "0"), put("b", "f", "", 1, "1"), put("x", "f", "", 1, "2")),
		blockOf(put("c", "f", "", 1, "3")),
		blockOf(put("s", "f", "", 1, "4"), put("e", "f", "", 1, "5")),
		blockOf(put("d", "f", "", 1, "6"), put("u", "f", "", 1, "7")),
		blockOf(put("t", "f", "", 1, "8")),
	}
	file := fileOf(blocks...)
	for row, want := range map[string]impl.SeekRes{
		"":  {Found: true, Entry: put("k", "f", "", 1, "0"), Read: 1},
		"b": {Found: true, Entry: put("k", "f", "", 1, "0"), Read: 1},
		"d": {Found: true, Entry: put("s", "f", "", 1, "4"), Read: 2},
		"f": {Found: true, Entry: put("u", "f", "", 1, "7"), Read: 1},
		"t": {Found: true, Entry: put("u", "f", "", 1, "7"), Read: 1},
		"v": {Read: 1},
	} {
		if got := impl.SeekRun([]byte(file), row); got != want {
			t.Errorf("row %q: %#v, want %#v", row, got, want)
		}
	}
	wantRead(t, "out of order", file, []string{"", "a", "c", "e", "l", "s", "u", "w", "y"})
}

func TestRunFilesLeaveArguments(t *testing.T) {
	for _, per := range []int64{0, 1, 2, 1000} {
		arg, whole := guarded(fourEntries())
		before := slices.Clone(whole)
		file := impl.EncodeRun(impl.Run{Entries: arg}, per)
		wantEntries(t, "the argument of EncodeRun", whole, before)
		kept := bytes.Clone(file)
		spoilEntries(whole)
		if !bytes.Equal(file, kept) {
			t.Errorf("EncodeRun, per %d: the answer changes with the argument", per)
		}
	}
	text := modelEncode(fourEntries(), 2)
	for _, cut := range []int{0, 1, 9, len(text) - 5} {
		whole := []byte(text[cut:] + "guard")
		arg := whole[:len(text)-cut]
		decoded := impl.DecodeRun(arg)
		sought := impl.SeekRun(arg, "abc")
		impl.Crc32(arg)
		if string(whole) != text[cut:]+"guard" {
			t.Errorf("the bytes of an argument are changed to %q", whole)
		}
		for i := range whole {
			whole[i] = '?'
		}
		if cut == 0 {
			wantEntries(t, "DecodeRun's answer", decoded.Run.Entries, fourEntries())
			if sought.Entry != fourEntries()[2] {
				t.Errorf("SeekRun's answer: %#v", sought)
			}
		}
	}
}

func TestRunFileAnswersAreNew(t *testing.T) {
	file := modelEncode(fourEntries(), 2)
	first := impl.DecodeRun([]byte(file))
	spoilEntries(first.Run.Entries)
	wantEntries(t, "a second answer", impl.DecodeRun([]byte(file)).Run.Entries, fourEntries())
	run := impl.Run{Entries: fourEntries()}
	bytesOnce := impl.EncodeRun(run, 2)
	for i := range bytesOnce {
		bytesOnce[i] = '?'
	}
	if string(impl.EncodeRun(run, 2)) != file {
		t.Errorf("EncodeRun answers with memory of an earlier answer")
	}
}
