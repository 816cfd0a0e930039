package rights_test

import (
	"fmt"
	"math/rand"
	"regexp"
	"slices"
	"strconv"
	"strings"
	"testing"

	"onair/api"
	"onair/rights"
)

// pattern returns an expression for a line as the chapter shows it.
func pattern(line string) *regexp.Regexp {
	number, regions, time := `(0|[1-9][0-9]*)`, `(all|[0-7](?:,[0-7])*)`, `([0-9][0-9]:[0-9][0-9])`
	return regexp.MustCompile(`\A` + strings.NewReplacer("#", number, "REGIONS", regions, "TIME", time).Replace(line) + `\z`)
}

// patterns contains for each kind the expression of its lines, and the fields for which their parts stand.
var patterns = map[int]struct {
	line   *regexp.Regexp
	fields []string
}{
	api.CGrant:     {pattern("grant # from # to # in REGIONS"), []string{"Item", "From", "To", "Regions"}},
	api.CWithdraw:  {pattern("withdraw # from # to # in REGIONS"), []string{"Item", "From", "To", "Regions"}},
	api.CRuns:      {pattern("runs # # in REGIONS"), []string{"Item", "N", "Regions"}},
	api.CCatchup:   {pattern("catchup # # in REGIONS"), []string{"Item", "N", "Regions"}},
	api.CCompete:   {pattern("compete # # gap #"), []string{"A", "B", "N"}},
	api.CWatershed: {pattern("watershed # from TIME to TIME"), []string{"A", "From", "To"}},
}

// regionsOf returns the set of regions that a text stands for, or -1 if there is none.
func regionsOf(text string) int {
	if text == "all" {
		return 255
	}
	digits := strings.Split(text, ",")
	if !slices.IsSorted(digits) || len(slices.Compact(slices.Clone(digits))) < len(digits) || len(digits) == 8 {
		return -1
	}
	set := 0
	for _, d := range digits {
		set += 1 << (d[0] - '0')
	}
	return set
}

// valueOf returns the number that a part of a line stands for, or -1 if there is none.
func valueOf(field, text string) int {
	if field == "Regions" {
		return regionsOf(text)
	}
	if at := strings.Index(text, ":"); at > 0 {
		hour, _ := strconv.Atoi(text[:at])
		minute, _ := strconv.Atoi(text[at+1:])
		if hour > 23 || minute > 59 {
			return -1
		}
		return hour*3600 + minute*60
	}
	n, err := strconv.ParseInt(text, 10, 64)
	if err != nil {
		return -1
	}
	return int(n)
}

// clauseOf returns the valid clause whose line is given, as the chapter defines it, and whether there is one.
func clauseOf(line string) (api.Clause, bool) {
	for kind, p := range patterns {
		values := p.line.FindStringSubmatch(line)
		if values == nil {
			continue
		}
		c := api.Clause{Kind: kind}
		for i, field := range p.fields {
			*fields(&c)[field] = valueOf(field, values[i+1])
		}
		return c, isValid(c)
	}
	return api.Clause{}, false
}

// parsed returns what Parse has to return.
func parsed(s string) ([]api.Clause, int, api.Errno) {
	if len(s) > 65536 {
		return nil, 0, api.ErrRights
	}
	var l []api.Clause
	for i, line := range strings.Split(s, "\n") {
		if line == "" || strings.HasPrefix(line, "#") {
			continue
		}
		c, ok := clauseOf(line)
		if !ok || len(l) == 400 {
			return nil, i + 1, api.ErrRights
		}
		l = append(l, c)
	}
	return l, 0, api.OK
}

// checkParse compares Parse with the chapter's definition.
func checkParse(t *testing.T, s string) {
	t.Helper()
	want, wantAt, wantErr := parsed(s)
	got, at, err := rights.Parse(s)
	if !slices.Equal(got, want) || at != wantAt || err != wantErr {
		t.Fatalf("Parse(%.300q) = %v, %d, %d, not %v, %d, %d", s, got, at, err, want, wantAt, wantErr)
	}
}

// lines contains lines and their clauses, the chapter's examples first.
var lines = []struct {
	line string
	c    api.Clause
}{
	{"grant 12 from 1000 to 9000 in 0,1,2", api.Clause{Kind: api.CGrant, Item: 12, From: 1000, To: 9000, Regions: 7}},
	{"watershed 2 from 21:00 to 05:30", api.Clause{Kind: api.CWatershed, A: 2, From: 75600, To: 19800}},
	{"grant 1 from 0 to 1 in all", api.Clause{Kind: api.CGrant, Item: 1, From: 0, To: 1, Regions: 255}},
	{"grant 4611686018427387903 from 9999999999 to 10000000000 in 7", api.Clause{Kind: api.CGrant, Item: api.MaxInt, From: 9999999999, To: 10000000000, Regions: 128}},
	{"withdraw 12 from 3000 to 4000 in 1,2,3,4,5,6,7", api.Clause{Kind: api.CWithdraw, Item: 12, From: 3000, To: 4000, Regions: 254}},
	{"withdraw 7 from 0 to 10000000000 in 0,1,2,3,4,5,6", api.Clause{Kind: api.CWithdraw, Item: 7, From: 0, To: 10000000000, Regions: 127}},
	{"runs 12 0 in all", api.Clause{Kind: api.CRuns, Item: 12, N: 0, Regions: 255}},
	{"runs 10 1000 in 0", api.Clause{Kind: api.CRuns, Item: 10, N: 1000, Regions: 1}},
	{"catchup 12 600 in 1,3", api.Clause{Kind: api.CCatchup, Item: 12, N: 600, Regions: 10}},
	{"catchup 12 10000000000 in 0,7", api.Clause{Kind: api.CCatchup, Item: 12, N: 10000000000, Regions: 129}},
	{"compete 3 7 gap 900", api.Clause{Kind: api.CCompete, A: 3, B: 7, N: 900}},
	{"compete 200 1 gap 0", api.Clause{Kind: api.CCompete, A: 200, B: 1, N: 0}},
	{"compete 1 200 gap 86400", api.Clause{Kind: api.CCompete, A: 1, B: 200, N: 86400}},
	{"watershed 3 from 00:00 to 23:59", api.Clause{Kind: api.CWatershed, A: 3, From: 0, To: 86340}},
	{"watershed 1 from 09:08 to 00:01", api.Clause{Kind: api.CWatershed, A: 1, From: 32880, To: 60}},
}

// P6.1: the line of a clause is printed and parsed as the chapter shows it.
func TestLines(t *testing.T) {
	var all []api.Clause
	text := ""
	for _, x := range lines {
		if s, err := rights.Print([]api.Clause{x.c}); s != x.line+"\n" || err != api.OK {
			t.Errorf("Print(%+v) = %q, %d", x.c, s, err)
		}
		for _, s := range []string{x.line, x.line + "\n", "\n" + x.line, "#\n\n# grant\n" + x.line + "\n\n#"} {
			if l, at, err := rights.Parse(s); !slices.Equal(l, []api.Clause{x.c}) || at != 0 || err != api.OK {
				t.Errorf("Parse(%q) = %v, %d, %d", s, l, at, err)
			}
		}
		all, text = append(all, x.c), text+x.line+"\n"
	}
	if s, err := rights.Print(all); s != text || err != api.OK {
		t.Errorf("Print = %q, %d", s, err)
	}
	if l, at, err := rights.Parse(text); !slices.Equal(l, all) || at != 0 || err != api.OK {
		t.Errorf("Parse = %v, %d, %d", l, at, err)
	}
}

// P6.1: every set of regions and every time of the day has one text.
func TestRegionsAndTimes(t *testing.T) {
	for set := 1; set <= 255; set++ {
		var regions []string
		for r := range 8 {
			if set>>r%2 == 1 {
				regions = append(regions, strconv.Itoa(r))
			}
		}
		text := strings.Join(regions, ",")
		if set == 255 {
			text = "all"
		}
		checkLine(t, api.Clause{Kind: api.CRuns, Item: 1, N: 2, Regions: set}, "runs 1 2 in "+text)
	}
	for minute := range 1440 {
		other := (minute + 1) % 1440
		line := fmt.Sprintf("watershed 1 from %02d:%02d to %02d:%02d", minute/60, minute%60, other/60, other%60)
		checkLine(t, api.Clause{Kind: api.CWatershed, A: 1, From: minute * 60, To: other * 60}, line)
	}
}

// checkLine checks that a clause is printed as a line, which is parsed as the clause.
func checkLine(t *testing.T, c api.Clause, line string) {
	t.Helper()
	s, err := rights.Print([]api.Clause{c})
	l, at, parseErr := rights.Parse(line)
	if s != line+"\n" || err != api.OK || !slices.Equal(l, []api.Clause{c}) || at != 0 || parseErr != api.OK {
		t.Fatalf("%+v, %q: %q, %d, %v, %d, %d", c, line, s, err, l, at, parseErr)
	}
}

// P6.1: Print refuses invalid clauses, wherever they are, and more than 400 clauses; then the text is empty (R2).
func TestPrintErrors(t *testing.T) {
	invalid := bases[0]
	invalid.N = 1
	for _, l := range [][]api.Clause{{invalid}, {bases[0], invalid}, {invalid, bases[0]}, {bases[0], {}, bases[0]}} {
		if s, err := rights.Print(l); s != "" || err != api.ErrRights {
			t.Errorf("Print(%v) = %q, %d", l, s, err)
		}
	}
	many := slices.Repeat([]api.Clause{bases[0]}, 401)
	if s, err := rights.Print(many[:400]); s != strings.Repeat(lines[0].line+"\n", 400) || err != api.OK {
		t.Errorf("400 clauses: %d", err)
	}
	if s, err := rights.Print(many); s != "" || err != api.ErrRights {
		t.Errorf("401 clauses: %q, %d", s, err)
	}
	for _, l := range [][]api.Clause{nil, {}} {
		if s, err := rights.Print(l); s != "" || err != api.OK {
			t.Errorf("no clauses: %q, %d", s, err)
		}
	}
}

// P6.1: each of these lines is that of no valid clause.
func TestWrongLines(t *testing.T) {
	for _, line := range []string{
		"grant 12 from 9 to 9 in all", "runs 12 3 in 0,1,2,3,4,5,6,7", // the chapter's examples
		" ", "x", "grant", "grant ", "grant 12", "grant 12 from 1 to 2", "grant 12 from 1 to 2 in", "grant 12 from 1 to 2 in ", "grant 12 from 1 to 2 in all all", "grant 12 from 1 to 2 in all ", " grant 12 from 1 to 2 in all", "grant 12  from 1 to 2 in all",
		"grant\t12 from 1 to 2 in all", "grant 12 from 1 to 2 in all\r", "grant 12 from 1 to 2 in all\x00", "GRANT 12 from 1 to 2 in all", "grant 12 From 1 to 2 in all", "grant 12 from 1 to 2 in ALL", "grant 12 from 1 to 2 on all", "grant 12 from 1 till 2 in all", "grant 12 to 2 from 1 in all", "grants 12 from 1 to 2 in all",
		"grant 0 from 1 to 2 in all", "grant -1 from 1 to 2 in all", "grant 4611686018427387904 from 1 to 2 in all", "grant 18446744073709551628 from 1 to 2 in all", "grant 99999999999999999999 from 1 to 2 in all", "grant 012 from 1 to 2 in all", "grant +12 from 1 to 2 in all", "grant 1_2 from 1 to 2 in all", "grant 0x12 from 1 to 2 in all", "grant 12. from 1 to 2 in all", "grant １ from 1 to 2 in all", "grant  from 1 to 2 in all",
		"grant 12 from 2 to 1 in all", "grant 12 from 00 to 2 in all", "grant 12 from -0 to 2 in all", "grant 12 from +1 to 2 in all", "grant 12 from -1 to 2 in all", "grant 12 from 1 to 02 in all", "grant 12 from 1 to 10000000001 in all", "grant 12 from 10000000000 to 10000000001 in all",
		"grant 12 from 1 to 2 in 8", "grant 12 from 1 to 2 in -1", "grant 12 from 1 to 2 in 0,8", "grant 12 from 1 to 2 in 63", "grant 12 from 1 to 2 in 64", "grant 12 from 1 to 2 in 00", "grant 12 from 1 to 2 in 01", "grant 12 from 1 to 2 in 1,0", "grant 12 from 1 to 2 in 0,0", "grant 12 from 1 to 2 in ,", "grant 12 from 1 to 2 in 0,", "grant 12 from 1 to 2 in ,0", "grant 12 from 1 to 2 in 0,,1", "grant 12 from 1 to 2 in 0, 1", "grant 12 from 1 to 2 in 0 1", "grant 12 from 1 to 2 in 0;1", "grant 12 from 1 to 2 in 7,6,5,4,3,2,1,0", "grant 12 from 1 to 2 in all,0", "grant 12 from 1 to 2 in 0,all", "grant 12 from 1 to 2 in 99999999999999999999",
		"withdraw 12 from 9 to 9 in all", "withdraw 12 from 1 to 10000000001 in all", "withdraw 0 from 1 to 2 in all", "withdraw 12 from 1 to 2 in 1,0",
		"runs 12 1001 in all", "runs 12 -1 in all", "runs 12 00 in all", "runs 0 1 in all", "runs 12 1", "runs 12 1 in 8", "runs 12 in all", "runs 12 1 to all", "runs 12 1 in all 1",
		"catchup 12 10000000001 in all", "catchup 12 -1 in all", "catchup 0 1 in all", "catchup 12 1 in", "catchup 12 1 all",
		"compete 3 3 gap 1", "compete 0 3 gap 1", "compete 3 0 gap 1", "compete 201 3 gap 1", "compete 3 201 gap 1", "compete 3 4 gap 86401", "compete 3 4 gap -1", "compete 3 4 1", "compete 3 4 gap", "compete 3 gap 1", "compete 3,4 gap 1", "compete 3 4 gap 1 in all", "compete 3 4 run 1",
		"watershed 0 from 01:00 to 02:00", "watershed 4 from 01:00 to 02:00", "watershed 1 from 01:00 to 01:00", "watershed 1 from 24:00 to 01:00", "watershed 1 from 00:00 to 24:00", "watershed 1 from 01:60 to 02:00", "watershed 1 from 00:99 to 02:00", "watershed 1 from 1:00 to 02:00", "watershed 1 from 01:0 to 02:00", "watershed 1 from 01:000 to 02:00", "watershed 1 from 001:00 to 02:00", "watershed 1 from 0100 to 02:00", "watershed 1 from 01.00 to 02:00", "watershed 1 from 01:00:00 to 02:00", "watershed 1 from :00 to 02:00", "watershed 1 from 01: to 02:00", "watershed 1 from : to 02:00", "watershed 1 from +1:00 to 02:00", "watershed 1 from 01:-0 to 02:00", "watershed 1 from -1:60 to 02:00", "watershed 1 from 01:00 to 26:00", "watershed 1 from 3600 to 7200", "watershed 1 from 5124095576030431:00 to 02:00", "watershed 1 from 01:00 to 02:00 in all", "watershed 01 from 01:00 to 02:00",
	} {
		if l, at, err := rights.Parse(line); len(l) > 0 || at != 1 || err != api.ErrRights {
			t.Errorf("Parse(%q) = %v, %d, %d", line, l, at, err)
		}
		if l, at, err := rights.Parse(lines[0].line + "\n#\n" + line + "\nx"); len(l) > 0 || at != 3 || err != api.ErrRights {
			t.Errorf("Parse of %q in line 3 = %v, %d, %d", line, l, at, err)
		}
		checkParse(t, line)
	}
}

// P6.1: lines are counted from 1, including ignored ones; the 401st clause is refused, valid or not.
func TestLineNumbers(t *testing.T) {
	line := lines[0].line + "\n"
	many := strings.Repeat(line, 400)
	for _, c := range []struct {
		s     string
		count int
		at    int
	}{
		{"", 0, 0}, {"\n", 0, 0}, {"\n\n\n", 0, 0}, {"#", 0, 0}, {"#x\n# y", 0, 0}, {"##\r\n", 0, 0}, {line, 1, 0}, {line + "\n\n" + line, 2, 0}, {"\n#\n" + line, 1, 0},
		{" #", 0, 1}, {"\r\n", 0, 1}, {"x\n", 0, 1}, {"\nx", 0, 2}, {"\nx\n\n", 0, 2}, {"#\n\n#\nx\ny", 0, 4}, {line + "x", 0, 2}, {line + line + "#\n" + line + "x", 0, 5},
		{line[:len(line)-1] + "#", 0, 1}, {line[:len(line)-1] + " # remark", 0, 1}, {"#" + line, 0, 0}, {"# " + line + line, 1, 0},
		{many, 400, 0}, {many + "\n#\n\n", 400, 0}, {many + line, 0, 401}, {many + line + "x", 0, 401}, {many + "x\n" + line, 0, 401}, {"#\n" + many + "\n" + line, 0, 403}, {many + "#\n#\n" + line, 0, 403}, {many + many, 0, 401},
		{"x\n" + many + line, 0, 1},
	} {
		want := api.OK
		if c.at > 0 {
			want = api.ErrRights
		}
		if l, at, err := rights.Parse(c.s); len(l) != c.count || at != c.at || err != want {
			t.Errorf("Parse(%.60q) = %d clauses, %d, %d", c.s, len(l), at, err)
		}
		checkParse(t, c.s)
	}
}

// P6.1: a text has up to 65536 bytes; of a longer one, no line is read.
func TestLongTexts(t *testing.T) {
	line := lines[0].line + "\n"
	for _, c := range []struct {
		begin, fill  string
		count, wrong int
	}{
		{"", "\n", 0, 0}, {"", "#", 0, 0}, {line, "\n", 1, 0}, {line + line, "#", 2, 0}, {"x", "\n", 0, 1}, {line + "\n", " ", 0, 3},
	} {
		for _, n := range []int{65535, 65536} {
			s := c.begin + strings.Repeat(c.fill, n-len(c.begin))
			l, at, err := rights.Parse(s)
			if len(l) != c.count || at != c.wrong || (err == api.OK) != (c.wrong == 0) {
				t.Errorf("%d bytes, %q: %d clauses, %d, %d", n, c.begin, len(l), at, err)
			}
		}
		for _, n := range []int{65537, 1 << 20} {
			s := c.begin + strings.Repeat(c.fill, n-len(c.begin))
			if l, at, err := rights.Parse(s); len(l) > 0 || at != 0 || err != api.ErrRights {
				t.Errorf("%d bytes, %q: %d clauses, %d, %d", n, c.begin, len(l), at, err)
			}
		}
	}
	checkParse(t, "grant 12 from 1 to 2 in "+strings.Repeat("0,", 30000)+"0")
	checkParse(t, "grant "+strings.Repeat("9", 60000)+" from 1 to 2 in all")
}

// validClauses returns up to 400 valid clauses.
func validClauses(r *rand.Rand) []api.Clause {
	return slices.DeleteFunc(randomClauses(r, 1+r.Intn(400)), func(c api.Clause) bool { return !isValid(c) })
}

// P6.2: parsing what Print returns gives the same clauses, whatever the clauses.
func TestPrintAndParse(t *testing.T) {
	r := rand.New(rand.NewSource(6))
	for range 300 {
		l := validClauses(r)
		text, err := rights.Print(l)
		got, at, parseErr := rights.Parse(text)
		if err != api.OK || !slices.Equal(got, l) || at != 0 || parseErr != api.OK {
			t.Fatalf("%v: %q, %d, %v, %d, %d", l, text, err, got, at, parseErr)
		}
	}
	longest := api.Clause{Kind: api.CWithdraw, Item: api.MaxInt, From: 9999999999, To: 10000000000, Regions: 127}
	text, err := rights.Print(slices.Repeat([]api.Clause{longest}, 400))
	if l, _, parseErr := rights.Parse(text); err != api.OK || len(l) != 400 || l[399] != longest || parseErr != api.OK {
		t.Errorf("the longest clauses: %d, %d, %d", err, len(l), parseErr)
	}
}

// P6.2: printing what Parse returns gives the text without its ignored lines, with a newline after each line.
func TestParseAndPrint(t *testing.T) {
	r := rand.New(rand.NewSource(62))
	for range 300 {
		l := validClauses(r)
		var all, kept []string
		for _, c := range l {
			for r.Intn(3) == 0 {
				all = append(all, []string{"", "#", "# grant", "#\x00"}[r.Intn(4)])
			}
			line, _ := rights.Print([]api.Clause{c})
			all, kept = append(all, strings.TrimSuffix(line, "\n")), append(kept, line)
		}
		parsed, at, err := rights.Parse(strings.Join(all, "\n"))
		text, printErr := rights.Print(parsed)
		if text != strings.Join(kept, "") || at != 0 || err != api.OK || printErr != api.OK {
			t.Fatalf("%q: %q, %d, %d, %d", all, text, at, err, printErr)
		}
	}
}

// change returns s with a few bytes or words changed, left out, doubled or exchanged.
func change(r *rand.Rand, s string) string {
	for range 1 + r.Intn(2) {
		if s == "" {
			return "0"
		}
		at, other := r.Intn(len(s)), r.Intn(len(s))
		with := "0123456789 ,:+-#al\n\x00"[r.Intn(20):]
		switch r.Intn(6) {
		case 0:
			s = s[:at] + s[at+1:]
		case 1:
			s = s[:at] + with[:1] + s[at:]
		case 2:
			s = s[:at] + with[:1] + s[at+1:]
		case 3:
			s = s[:min(at, other)] + s[max(at, other):]
		case 4:
			s = s[:at] + s[min(at, other):]
		case 5:
			words := strings.Split(s, " ")
			i, k := r.Intn(len(words)), r.Intn(len(words))
			words[i], words[k] = words[k], words[i]
			s = strings.Join(words, " ")
		}
	}
	return s
}

// P6.1, P6.2: every text that is changed by a few bytes is read as the chapter defines it: only the lines of valid clauses are read as clauses.
func TestChangedTexts(t *testing.T) {
	r := rand.New(rand.NewSource(61))
	accepted := 0
	for range 60000 {
		text := lines[r.Intn(len(lines))].line
		if r.Intn(4) == 0 {
			text += "\n" + lines[r.Intn(len(lines))].line
		}
		text = change(r, text)
		checkParse(t, text)
		if _, _, err := rights.Parse(text); err == api.OK {
			accepted++
		}
	}
	if accepted < 1000 {
		t.Errorf("only %d texts were right", accepted)
	}
}
