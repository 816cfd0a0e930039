package rights

import (
	"strconv"
	"strings"

	"onair/api"
)

// malformed is what reading panics with if a line cannot be that of a clause.
type malformed struct{}

// part is a word of a line: one that all lines of a kind have, or one that stands for a field of a clause.
type part interface {
	text() string
	// read sets the field to what the text of a valid clause stands for. It may accept other texts, too.
	read(text string)
}

type (
	word      string
	number    struct{ field *int }
	regionSet struct{ field *int }
	clock     struct{ field *int }
)

func (w word) text() string {
	return string(w)
}

func (w word) read(text string) {}

func parseNumber(text string) int {
	n, err := strconv.Atoi(text)
	if err != nil {
		panic(malformed{})
	}
	return n
}

func (n number) text() string {
	return strconv.Itoa(*n.field)
}

func (n number) read(text string) {
	*n.field = parseNumber(text)
}

func (r regionSet) text() string {
	if *r.field == allRegions {
		return "all"
	}
	var names []string
	for region := range api.MaxRegions {
		if contains(*r.field, region) {
			names = append(names, strconv.Itoa(region))
		}
	}
	return strings.Join(names, ",")
}

func (r regionSet) read(text string) {
	if text == "all" {
		*r.field = allRegions
		return
	}
	for _, name := range strings.Split(text, ",") {
		region := parseNumber(name)
		if !isRegion(region) {
			panic(malformed{})
		}
		*r.field |= 1 << region
	}
}

// twoDigits returns the digits of n, which is from 0 to 99.
func twoDigits(n int) string {
	return strconv.Itoa(n/10) + strconv.Itoa(n%10)
}

func (c clock) text() string {
	minutes := *c.field / 60
	return twoDigits(minutes/60) + ":" + twoDigits(minutes%60)
}

func (c clock) read(text string) {
	hour, minute, _ := strings.Cut(text, ":")
	*c.field = parseNumber(hour)*3600 + parseNumber(minute)*60
}

// parts describes the line of a clause of the kind of c. The parts that stand for fields read and print those of c.
func parts(c *api.Clause) []part {
	switch c.Kind {
	case api.CGrant:
		return []part{word("grant"), number{&c.Item}, word("from"), number{&c.From}, word("to"), number{&c.To}, word("in"), regionSet{&c.Regions}}
	case api.CWithdraw:
		return []part{word("withdraw"), number{&c.Item}, word("from"), number{&c.From}, word("to"), number{&c.To}, word("in"), regionSet{&c.Regions}}
	case api.CRuns:
		return []part{word("runs"), number{&c.Item}, number{&c.N}, word("in"), regionSet{&c.Regions}}
	case api.CCatchup:
		return []part{word("catchup"), number{&c.Item}, number{&c.N}, word("in"), regionSet{&c.Regions}}
	case api.CCompete:
		return []part{word("compete"), number{&c.A}, number{&c.B}, word("gap"), number{&c.N}}
	case api.CWatershed:
		return []part{word("watershed"), number{&c.A}, word("from"), clock{&c.From}, word("to"), clock{&c.To}}
	}
	return nil
}

// kindOf returns the kind whose lines begin with a word.
func kindOf(first string) int {
	switch first {
	case "grant":
		return api.CGrant
	case "withdraw":
		return api.CWithdraw
	case "runs":
		return api.CRuns
	case "catchup":
		return api.CCatchup
	case "compete":
		return api.CCompete
	case "watershed":
		return api.CWatershed
	}
	panic(malformed{})
}

// lineOf returns the line of a valid clause.
func lineOf(c api.Clause) string {
	var texts []string
	for _, p := range parts(&c) {
		texts = append(texts, p.text())
	}
	return strings.Join(texts, " ")
}

// Print returns the lines of the clauses of l.
func Print(l []api.Clause) (string, api.Errno) {
	if len(l) > api.MaxClauses {
		return "", api.ErrRights
	}
	var text strings.Builder
	for _, c := range l {
		if !Valid(c) {
			return "", api.ErrRights
		}
		text.WriteString(lineOf(c) + "\n")
	}
	return text.String(), api.OK
}

// parseLine returns the clause whose line is given, and whether there is one.
func parseLine(line string) (c api.Clause, ok bool) {
	defer func() {
		if recover() != nil {
			c, ok = api.Clause{}, false
		}
	}()
	texts := strings.Split(line, " ")
	c.Kind = kindOf(texts[0])
	expected := parts(&c)
	if len(texts) != len(expected) {
		panic(malformed{})
	}
	for i, p := range expected {
		p.read(texts[i])
	}
	// The line of the clause is compared, as the parts also read texts that are never printed.
	return c, Valid(c) && lineOf(c) == line
}

// lines yields the lines of a text with their numbers, which begin with 1.
func lines(s string) func(yield func(int, string) bool) {
	return func(yield func(int, string) bool) {
		rest, more := s, true
		for n := 1; more; n++ {
			var line string
			line, rest, more = strings.Cut(rest, "\n")
			if !yield(n, line) {
				return
			}
		}
	}
}

func isIgnored(line string) bool {
	return line == "" || line[0] == '#'
}

// Parse returns the clauses of a text, or the number of its first line that is wrong.
func Parse(s string) ([]api.Clause, int, api.Errno) {
	if len(s) > api.MaxString {
		return nil, 0, api.ErrRights
	}
	var clauses []api.Clause
	wrong := 0
text:
	for n, line := range lines(s) {
		if isIgnored(line) {
			continue
		}
		switch c, ok := parseLine(line); {
		case !ok, len(clauses) == api.MaxClauses:
			wrong = n
			break text
		default:
			clauses = append(clauses, c)
		}
	}
	if wrong > 0 {
		return nil, wrong, api.ErrRights
	}
	return clauses, 0, api.OK
}
