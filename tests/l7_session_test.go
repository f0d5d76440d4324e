package tests

import (
	"bytes"
	"fmt"
	"slices"
	"strings"
	"testing"

	"loop.example/s01854/impl"
)

// wantSession asks for the same answer of the model.
func wantSession(t *testing.T, name, text, want string) {
	t.Helper()
	if got := string(impl.Session([]byte(text))); got != want {
		t.Errorf("%s: %q is answered by\n%s\nwant\n%s", name, text, got, want)
	}
	if model := newModelSession().run(text); model != want {
		t.Errorf("%s: %q is answered by the model by\n%s\nwant\n%s", name, text, model, want)
	}
}

func lines(list ...string) string { return strings.Join(list, "\n") + "\n" }

func TestSessionTexts(t *testing.T) {
	wantSession(t, "empty", "", "")
	wantSession(t, "a newline", "\n", "bad\n")
	wantSession(t, "newlines", "\n\n\n", "bad\nbad\nbad\n")
	wantSession(t, "no newline at the end", "next", "none\n")
	wantSession(t, "a newline at the end", "next\n", "none\n")
	wantSession(t, "two newlines at the end", "next\n\n", "none\nbad\n")
	wantSession(t, "an empty line before", "\nnext", "bad\nnone\n")
	wantSession(t, "a space", " ", "bad\n")
	wantSession(t, "a space in a line", "next\n \nnext", "none\nbad\nnone\n")
	wantSession(t, "a byte 0", "\x00", "bad\n")
	wantSession(t, "a carriage return", "next\r\nnext", "bad\nnone\n")
	wantSession(t, "SessionMax newlines", strings.Repeat("\n", impl.SessionMax), strings.Repeat("bad\n", impl.SessionMax))
	wantSession(t, "SessionMax + 1 newlines", strings.Repeat("\n", impl.SessionMax+1), "long\n")
	wantSession(t, "SessionMax bytes in one line", strings.Repeat("x", impl.SessionMax), "bad\n")
	wantSession(t, "SessionMax + 1 bytes in one line", strings.Repeat("x", impl.SessionMax+1), "long\n")
	wantSession(t, "lines of SessionMax bytes", strings.Repeat("next\n", impl.SessionMax/5), strings.Repeat("none\n", impl.SessionMax/5))
	wantSession(t, "one byte more", strings.Repeat("next\n", impl.SessionMax/5)+"n", "long\n")
	wantSession(t, "many bytes", strings.Repeat("next\n", 100000), "long\n")
}

// Each word with each number of fields.
func TestSessionFields(t *testing.T) {
	right := map[string][]int{"put": {5}, "del": {4}, "delcol": {4}, "flush": {0}, "split": {1}, "merge": {1}, "compact": {1}, "next": {0}, "scan": {4, 5, 6, 7, 8}}
	told := map[string]string{"next": "none\n", "scan": "error 3 0\n"}
	for _, word := range []string{"put", "del", "delcol", "flush", "split", "merge", "compact", "next", "scan", "", "Put", "PUT", "puts", "pu", "delCol", "bad", "done", "long", "-", "1"} {
		for n := range 9 {
			line := strings.Join(append([]string{word}, slices.Repeat([]string{"1"}, n)...), " ")
			want := "bad\n"
			if slices.Contains(right[word], n) {
				want = told[word]
			}
			wantSession(t, "alone", line+"\n", want)
			if word == "scan" {
				continue
			}
			for _, other := range []string{line + " ", " " + line, strings.Replace(line, " ", "  ", 1), strings.Replace(line, " ", "\t", 1), strings.ToUpper(line)} {
				if other != line {
					wantSession(t, "with another space", other+"\n", "bad\n")
				}
			}
		}
	}
}

// Each field of each sort of line empty, "-", and of other bytes.
func TestSessionFieldValues(t *testing.T) {
	words := map[string][]string{"put": {"ROW", "FAM", "QUAL", "TS", "VAL"}, "del": {"ROW", "FAM", "QUAL", "TS"}, "delcol": {"ROW", "FAM", "QUAL", "TS"}, "split": {"ROW"}, "merge": {"ROW"}, "compact": {"ROW"}}
	bad := func(word, field, value string) bool {
		most := map[string]int{"ROW": impl.RowMax, "FAM": impl.FamMax, "QUAL": impl.QualMax, "VAL": impl.ValMax}[field]
		if word == "split" || word == "merge" || word == "compact" {
			return value == ""
		}
		if field == "TS" {
			return value != "1"
		}
		return value == "" || len(value) > most
	}
	for word, names := range words {
		for i, field := range names {
			for _, value := range []string{"", "-", "1", "--", "\x00", "\xff", "\"", "\\", strings.Repeat("x", 16), strings.Repeat("x", 17), strings.Repeat("x", 64), strings.Repeat("x", 65), strings.Repeat("x", 200), strings.Repeat("x", 201)} {
				fields := slices.Repeat([]string{"1"}, len(names))
				fields[i] = value
				want := ""
				if bad(word, field, value) {
					want = "bad\n"
				}
				wantSession(t, field, word+" "+strings.Join(fields, " "), want)
			}
		}
	}
}

func numbers() map[string]bool {
	return map[string]bool{
		"0": true, "1": true, "9": true, "10": true, "10000": true, "10001": true, "18446744073709551615": true,
		"18446744073709551616": false, "18446744073709551625": false, "99999999999999999999": false, "184467440737095516150": false, strings.Repeat("9", 300): false,
		"00": false, "01": false, "007": false, "0" + "18446744073709551615": false, "+1": false, "-1": false, "-0": false, "--1": false, "1.": false, "1.0": false, "1e3": false, "0x1": false, "1_0": false, "1,0": false, "a": false, "1a": false, "a1": false, "\xd9\xa3": false, "1\x00": false, "-": false, "": false,
	}
}

func TestSessionNumbers(t *testing.T) {
	for num, ok := range numbers() {
		want := "bad\ndone\n"
		if ok {
			want = "r f q " + num + " v\ndone\n"
		}
		wantSession(t, "TS of put", lines("put r f q "+num+" v", "scan - - 10000 pass"), want)
		want = map[bool]string{true: "", false: "bad\n"}[ok]
		wantSession(t, "TS of del", "del r f q "+num, want)
		wantSession(t, "TS of delcol", "delcol r f q "+num, want)
		want = map[bool]string{true: "done\n", false: "bad\n"}[ok && num != "0" && len(num) < 6 && num != "10001"]
		wantSession(t, "BUDGET", "scan - - "+num+" pass", want)
	}
}

func TestSessionWrites(t *testing.T) {
	wantSession(t, "in order of keys", lines("put b f q 1 x", "put a g q 1 y", "put a f q 1 z", "put a f q 2 w", "scan - - 99 pass"), lines("a f q 2 w", "a f q 1 z", "a g q 1 y", "b f q 1 x", "done"))
	wantSession(t, "an empty QUAL and VAL", lines("put - - - 1 -", "put - - -- 1 --", "scan - - 99 pass"), lines("- - - 1 -", "- - -- 1 --", "done"))
	wantSession(t, "a del of an empty QUAL", lines("put a f - 1 x", "put a f q 1 y", "flush", "del a f - 1", "scan - - 99 pass"), lines("a f q 1 y", "done"))
	wantSession(t, "a delcol of an empty QUAL", lines("put a f - 1 x", "put a f - 2 y", "put a f q 1 z", "flush", "delcol a f - 1", "scan - - 99 pass"), lines("a f - 2 y", "a f q 1 z", "done"))
	wantSession(t, "one flush", lines("put a f q 1 x", "del a f q 1", "put a f q 2 y", "delcol a f q 2", "put a f q 2 z", "scan - - 99 pass"), lines("a f q 2 z", "done"))
	wantSession(t, "several flushes", lines("put a f q 1 x", "flush", "del a f q 1", "put a f q 2 y", "flush", "delcol a f q 2", "flush", "put a f q 2 z", "flush", "scan - - 99 pass"), lines("a f q 2 z", "done"))
	wantSession(t, "a bad write in between", lines("put a f q 1 x", "put a f q 1", "put b f q 1 "+strings.Repeat("v", 201), "scan - - 99 pass"), lines("bad", "bad", "a f q 1 x", "done"))
	wantSession(t, "any bytes", lines("put \xff\x00 \t q\r 1 \"\\", "scan - - 99 pass"), lines("\xff\x00 \t q\r 1 \"\\", "done"))
	wantSession(t, "strip", lines("put a f q 1 x", "scan - - 99 strip"), lines("a f q 1 -", "done"))
}

func TestSessionWaitingWrites(t *testing.T) {
	for _, change := range []string{"split a", "split b", "merge a", "compact a", "split", "bad", "next", "scan - - 0 pass"} {
		told := map[string]string{"split": "bad\n", "bad": "bad\n", "scan - - 0 pass": "bad\n", "next": "none\n"}[change]
		wantSession(t, "writes wait over "+change, lines("put a f q 1 x", change, "put a f q 1 y", "scan a a\x00 99 pass"), told+lines("a f q 1 y", "done"))
	}
	wantSession(t, "a scan writes them, next does not", lines("put a f q 1 x", "put b f q 1 y", "scan - - 1 pass", "put c f q 1 z", "next", "next"), lines("a f q 1 x", "more", "b f q 1 y", "more", "done"))
	wantSession(t, "a flush shows in the next page", lines("put a f q 1 x", "put b f q 1 y", "scan - - 1 pass", "put c f q 1 z", "put a f q 2 w", "flush", "next", "next", "next"), lines("a f q 1 x", "more", "b f q 1 y", "more", "c f q 1 z", "more", "done"))
	wantSession(t, "a scan with an error writes them too", lines("put a f q 1 x", "scan - - 1 passs", "split b", "merge a", "del a f q 1", "scan - - 9 pass"), lines("error 2 0", "done"))
	wantSession(t, "a bad scan does not", lines("put a f q 1 x", "put b f q 1 y", "scan - - 1 pass", "put aa f q 1 z", "scan - - 0 pass", "next", "next"), lines("a f q 1 x", "more", "bad", "b f q 1 y", "more", "done"))
	wantSession(t, "compacted writes do not wait", lines("put a f q 1 x", "flush", "del a f q 1", "compact a", "put a f q 0 y", "flush", "scan - - 9 pass"), lines("a f q 0 y", "done"))
}

func TestSessionScans(t *testing.T) {
	five := "put a f q 1 a\nput b f q 1 b\nput b f r 1 b\nput c f q 1 c\nput d f q 1 d\n"
	for name, c := range map[string][2]string{
		"all":                            {lines("scan - - 9 pass"), lines("a f q 1 a", "b f q 1 b", "b f r 1 b", "c f q 1 c", "d f q 1 d", "done")},
		"from b":                         {lines("scan b - 3 pass", "next", "next"), lines("b f q 1 b", "b f r 1 b", "c f q 1 c", "more", "d f q 1 d", "done", "none")},
		"to c":                           {lines("scan - c 9 pass"), lines("a f q 1 a", "b f q 1 b", "b f r 1 b", "done")},
		"from b to c":                    {lines("scan b c 9 pass"), lines("b f q 1 b", "b f r 1 b", "done")},
		"from c to b":                    {lines("scan c b 9 pass", "next"), lines("done", "none")},
		"from b to b":                    {lines("scan b b 9 pass"), lines("done")},
		"to --":                          {lines("scan - -- 9 pass"), lines("done")},
		"from --":                        {lines("scan -- - 9 cells 1"), lines("a f q 1 a", "b f q 1 b", "c f q 1 c", "d f q 1 d", "done")},
		"a long LO":                      {lines("scan " + strings.Repeat("c", 300) + " - 9 pass"), lines("d f q 1 d", "done")},
		"the budget stays":               {lines("scan - - 2 pass", "next", "next"), lines("a f q 1 a", "b f q 1 b", "b f r 1 b", "more", "c f q 1 c", "d f q 1 d", "more", "done")},
		"a new scan begins anew":         {lines("scan - - 1 pass", "next", "scan - - 1 pass", "next"), lines("a f q 1 a", "more", "b f q 1 b", "b f r 1 b", "more", "a f q 1 a", "more", "b f q 1 b", "b f r 1 b", "more")},
		"another scan":                   {lines("scan - - 1 pass", "scan b - 1 cells 1", "next"), lines("a f q 1 a", "more", "b f q 1 b", "more", "c f q 1 c", "more")},
		"an error ends a scan":           {lines("scan - - 1 pass", "scan - - 1 cells 0", "next", "next"), lines("a f q 1 a", "more", "error 8 6", "none", "none")},
		"a scan after an error":          {lines("scan - - 1 x", "scan - - 1 pass", "next"), lines("error 2 0", "a f q 1 a", "more", "b f q 1 b", "b f r 1 b", "more")},
		"a bad scan ends none":           {lines("scan - - 1 pass", "scan - - 1", "scan  - 1 pass", "scan -  1 pass", "scan - -  pass", "scan - - 10001 pass", "next"), lines("a f q 1 a", "more", "bad", "bad", "bad", "bad", "bad", "b f q 1 b", "b f r 1 b", "more")},
		"bad lines end none":             {lines("scan - - 1 pass", "", "next ", "nxt", "put", "next"), lines("a f q 1 a", "more", "bad", "bad", "bad", "bad", "b f q 1 b", "b f r 1 b", "more")},
		"after done":                     {lines("scan - - 9 row \"d\"", "next", "next"), lines("d f q 1 d", "done", "none", "none")},
		"an empty FILTER":                {lines("scan - - 1 ", "next"), lines("error 3 0", "none")},
		"a FILTER of spaces":             {lines("scan - - 1    "), lines("error 3 3")},
		"spaces ahead of FILTER":         {lines("scan - - 1   cells 0"), lines("error 8 8")},
		"spaces in FILTER":               {lines("scan a b 1 pass  >   pass |  block "), lines("a f q 1 a", "more")},
		"two spaces in a STR":            {lines(`scan - - 1 row "a  b" >`), lines("error 3 12")},
		"a FILTER of no spaces":          {lines(`scan - - 9 row"a"`), lines("a f q 1 a", "done")},
		"a FILTER with an if":            {lines(`scan - - 9 if(qual "r", skip 1, val "c")`), lines("b f r 1 b", "c f q 1 c", "done")},
		"a FILTER of FilterTextMax":      {lines("scan - - 9 " + strings.Repeat(" ", impl.FilterTextMax-5) + "block"), lines("done")},
		"a FILTER of FilterTextMax + 1":  {lines("scan - - 9 " + strings.Repeat(" ", impl.FilterTextMax-4) + "block"), lines("error 1 0")},
		"a FILTER of other bytes":        {lines("scan - - 9 \xff", "scan - - 9 pass\t", "scan - - 9 pass\x00"), lines("error 2 0", "error 2 4", "error 2 4")},
		"errors of all sorts":            {lines("scan - - 9 pass pass", `scan - - 9 row "("`, `scan - - 9 ts 2..1`, "scan - - 9 "+strings.Repeat("(", 21)), lines("error 3 5", "error 6 4", "error 7 6", "error 4 20")},
		"tablets part the pages":         {lines("split b", "split bb", "split d", "scan - - 9 pass", "next", "next", "next", "next"), lines("a f q 1 a", "more", "b f q 1 b", "b f r 1 b", "more", "c f q 1 c", "more", "d f q 1 d", "done", "none")},
		"splits between pages":           {lines("scan - - 1 pass", "split b", "next", "split c", "split cc", "next", "next", "next"), lines("a f q 1 a", "more", "more", "b f q 1 b", "b f r 1 b", "more", "more", "c f q 1 c", "more")},
		"a merge between pages":          {lines("split c", "scan - - 4 pass", "merge a", "next"), lines("a f q 1 a", "b f q 1 b", "b f r 1 b", "more", "c f q 1 c", "d f q 1 d", "done")},
		"a compaction between pages":     {lines("scan - - 1 pass", "compact -", "next"), lines("a f q 1 a", "more", "b f q 1 b", "b f r 1 b", "more")},
		"a range over a part of tablets": {lines("split b", "split c", "scan b c 9 pass", "scan b d 9 pass", "next"), lines("b f q 1 b", "b f r 1 b", "done", "b f q 1 b", "b f r 1 b", "more", "c f q 1 c", "done")},
		"a split at a long row":          {lines("split "+strings.Repeat("b", 65), "scan - - 9 block"), lines("done")},
		"a split at -":                   {lines("split -", "scan - - 9 block", "next"), lines("more", "done")},
	} {
		wantSession(t, name, five+c[0], c[1])
	}
	wantSession(t, "an empty store", "scan - - 1 pass\nnext", "done\nnone\n")
}

// runsOf gives lines that write n runs into the tablet of the row.
func runsOf(row string, n int) string {
	var text strings.Builder
	for i := range n {
		fmt.Fprintf(&text, "put %s f q %d v\nflush\n", row, i)
	}
	return text.String()
}

func TestSessionFullTablets(t *testing.T) {
	var all []string
	for i := 119; i >= 0; i-- {
		all = append(all, fmt.Sprintf("a f q %d v", i))
	}
	wantSession(t, "120 flushes", runsOf("a", 120)+"scan - - 999 pass", lines(append(all, "done")...))
	// Whether a merge is refused tells how many runs there are: pages end with their tablets.
	parted, whole := "more\ndone\n", "done\n"
	scan := "scan - - 9 block\nnext\n"
	for name, c := range map[string][2]string{
		"50 and 0 runs":                            {"split b\n" + runsOf("a", 50) + "merge a\n", whole},
		"50 and 1":                                 {"split b\n" + runsOf("b", 1) + runsOf("a", 50) + "merge a\n", parted},
		"50 and 1, flushed with nothing":           {"split b\n" + runsOf("b", 1) + runsOf("a", 50) + "flush\nmerge a\n", whole},
		"50 and 1, a scan flushes":                 {"split b\n" + runsOf("b", 1) + runsOf("a", 50) + "scan - - 1 x\nmerge a\n", whole},
		"50 and 1, a bad scan does not":            {"split b\n" + runsOf("b", 1) + runsOf("a", 50) + "scan - - 0 x\nmerge a\n", parted},
		"1 and 50":                                 {"split b\n" + runsOf("a", 1) + runsOf("b", 50) + "merge a\n", parted},
		"1 and 50, flushed with nothing":           {"split b\n" + runsOf("a", 1) + runsOf("b", 50) + "flush\nmerge a\n", whole},
		"49 and 2, flushed with nothing":           {"split b\n" + runsOf("b", 2) + runsOf("a", 49) + "flush\nmerge a\n", parted},
		"49 and 1":                                 {"split b\n" + runsOf("b", 1) + runsOf("a", 49) + "merge a\n", whole},
		"50, then one for the other tablet, and 1": {"split b\n" + runsOf("a", 50) + runsOf("b", 1) + "merge a\n", whole},
		"50 and one more, and 48":                  {"split b\n" + runsOf("b", 48) + runsOf("a", 51) + "merge a\n", whole},
		"50 and one more, and 49":                  {"split b\n" + runsOf("b", 49) + runsOf("a", 51) + "merge a\n", parted},
		"50 and one that hides all, and 49":        {"split b\n" + runsOf("b", 49) + runsOf("a", 49) + "delcol a f q 99\nflush\nflush\nput a f q 7 x\nflush\nmerge a\n", whole},
		"25 and 26, compacted":                     {"split b\n" + runsOf("b", 26) + runsOf("a", 25) + "merge a\ncompact b\nmerge a\n", whole},
		"25 and 26":                                {"split b\n" + runsOf("b", 26) + runsOf("a", 25) + "merge a\n", parted},
	} {
		want := c[1]
		if want == whole {
			want += "none\n"
		}
		got := string(impl.Session([]byte(c[0] + scan)))
		if got = strings.TrimPrefix(strings.TrimPrefix(got, "error 2 0\n"), "bad\n"); got != want {
			t.Errorf("%s: %q", name, got)
		}
		if model := newModelSession().run(c[0] + scan); !strings.HasSuffix(model, want) {
			t.Errorf("%s by the model: %q", name, model)
		}
	}
	both := "split b\n" + runsOf("a", 50) + runsOf("b", 50)
	wantSession(t, "two full tablets get a write each", both+"put a f q 60 x\nput b f q 60 y\nflush\nscan - - 999 cells 1\nnext", "a f q 60 x\nmore\nb f q 60 y\ndone\n")
}

func drawLine(d *dice) string {
	row := pick(d, []string{"a", "a\x00", "ab", "b", "ba", "bb"})
	column := row + " " + pick(d, []string{"a", "b"}) + " " + pick(d, []string{"-", "a", "ab", "b"}) + " " + fmt.Sprint(d.roll(5))
	switch d.roll(16) {
	case 0, 1, 2, 3, 4:
		return "put " + column + " " + pick(d, []string{"-", "a", "b", "ab"})
	case 5:
		return "del " + column
	case 6:
		return "delcol " + column
	case 7:
		return "flush"
	case 8:
		return "split " + pick(d, splitRows)
	case 9:
		return pick(d, []string{"merge ", "compact "}) + pick(d, splitRows)
	case 10, 11:
		return fmt.Sprintf("scan %s %s %d %s", pick(d, append([]string{"-", "-", "-"}, splitRows...)), pick(d, append([]string{"-", "-", "-"}, splitRows...)), 1+d.roll(4), drawTree(d, 1+d.roll(2), "ab").print())
	}
	return "next"
}

func TestSessionDrawn(t *testing.T) {
	d := &dice{state: 721}
	said := map[string]int{}
	for range 1200 {
		var list []string
		for range d.roll(60) {
			line := drawLine(d)
			if d.roll(25) == 0 {
				line = changed(d, line)
			}
			list = append(list, line)
		}
		text := strings.Join(list, "\n")
		m := newModelSession()
		want := m.run(text)
		if got := string(impl.Session([]byte(text))); got != want {
			t.Fatalf("%q is answered by\n%s\nwant\n%s", text, got, want)
		}
		for _, line := range strings.Split(want, "\n") {
			said[strings.SplitN(line, " ", 2)[0]]++
		}
		// Whatever was done between, all writes show in the end as if carried out in order.
		var shows []string
		for _, c := range modelReplay(m.writes) {
			shows = append(shows, c.Row+" "+c.Fam+" "+dashed(c.Qual)+" "+fmt.Sprint(c.Ts)+" "+dashed(c.Val)+"\n")
		}
		got := string(impl.Session([]byte(text + "\nscan - - 1 x\n" + strings.Repeat("merge -\n", 20) + "scan - - 10000 pass")))
		if _, end, _ := strings.Cut(got[max(0, len(want)-1):], "error 2 0\n"); end != strings.Join(shows, "")+"done\n" {
			t.Fatalf("%q shows in the end\n%s\nwant\n%s", text, end, strings.Join(shows, ""))
		}
	}
	for _, word := range []string{"bad", "none", "more", "done", "error", "a", "bb"} {
		if said[word] < 30 {
			t.Errorf("%v", said)
		}
	}
}

func TestSessionAnyBytes(t *testing.T) {
	d := &dice{state: 722}
	words := []string{"put", "del", "delcol", "flush", "split", "merge", "compact", "scan", "next", "a", "b", "-", "1", "0", "01", "pass", "block", "\"", " ", " ", " ", " ", " ", "\n", "\n", "\n", "\x00", "\xff", "..", "(", "\r"}
	for range 4000 {
		var text strings.Builder
		for range d.roll(40) {
			text.WriteString(pick(d, words))
			if d.roll(2) == 0 {
				text.WriteString(" ")
			}
		}
		want := newModelSession().run(text.String())
		if got := string(impl.Session([]byte(text.String()))); got != want {
			t.Fatalf("%q is answered by\n%s\nwant\n%s", text.String(), got, want)
		}
	}
}

// The largest sessions: many writes and as many pages, many flushes, many scans.
func TestSessionLarge(t *testing.T) {
	var text, want strings.Builder
	for i := range 900 {
		fmt.Fprintf(&text, "put %03d f - 1 -\n", i)
		fmt.Fprintf(&want, "%03d f - 1 -\nmore\n", i)
	}
	text.WriteString("scan - - 1 pass\n" + strings.Repeat("next\n", 901))
	if got := string(impl.Session([]byte(text.String()))); got != want.String()+"done\nnone\n" {
		t.Errorf("900 pages: %d bytes", len(got))
	}
	splits := strings.Builder{}
	for i := range 150 {
		fmt.Fprintf(&splits, "split %03d\n", i)
	}
	got := string(impl.Session([]byte(splits.String() + "scan - - 1 pass\n" + strings.Repeat("next\n", 100))))
	if want := strings.Repeat("more\n", impl.TabletMax-1) + "done\nnone\n"; got != want {
		t.Errorf("150 splits: %q", got)
	}
	flushes := runsOf("a", 1) + strings.Repeat("put a f q 1 x\nflush\n", 900) + "scan - - 1 pass\nnext"
	if got := string(impl.Session([]byte(flushes))); got != "a f q 1 x\na f q 0 v\nmore\ndone\n" {
		t.Errorf("900 flushes: %q", got)
	}
}

func TestSessionMemory(t *testing.T) {
	whole := []byte(lines("put a f q 1 x", "scan - - 1 pass", "next", "bad") + "guard")
	text := whole[:len(whole)-5]
	before := bytes.Clone(whole)
	answer := impl.Session(text)
	if !bytes.Equal(whole, before) {
		t.Error("the text was changed")
	}
	for i := range whole {
		whole[i] = '!'
	}
	if string(answer) != lines("a f q 1 x", "more", "done", "bad") {
		t.Errorf("the text is spoiled, and with it the answer: %q", answer)
	}
	answer = answer[:cap(answer)]
	for i := range answer {
		answer[i] = '!'
	}
	if got := string(impl.Session(before[:len(text)])); got != lines("a f q 1 x", "more", "done", "bad") {
		t.Errorf("another session has something of the one before: %q", got)
	}
	long := impl.Session(make([]byte, impl.SessionMax+1))
	long[0] = '!'
	if got := string(impl.Session(make([]byte, impl.SessionMax+1))); got != "long\n" {
		t.Errorf("too long a text: %q", got)
	}
}
