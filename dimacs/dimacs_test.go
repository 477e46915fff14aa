package dimacs_test

import (
	"fmt"
	"math"
	"math/big"
	"regexp"
	"slices"
	"strings"
	"testing"

	"weephole/api"
	"weephole/cnf"
	"weephole/dimacs"
)

// formula returns a formula of n variables.
func formula(n int, clauses ...[]int) api.Formula {
	return api.Formula{Vars: n, Clauses: clauses}
}

// repeat returns a clause of n times the same number.
func repeat(x, n int) []int {
	return slices.Repeat([]int{x}, n)
}

// many returns n times the same clause.
func many(n int, c ...int) [][]int {
	return slices.Repeat([][]int{c}, n)
}

// lists returns all lists of at most size of the elements.
func lists[T any](elements []T, size int) [][]T {
	all := [][]T{nil}
	for from := 0; size > 0; size-- {
		to := len(all)
		for _, l := range all[from:to] {
			for _, x := range elements {
				all = append(all, append(slices.Clone(l), x))
			}
		}
		from = to
	}
	return all
}

// smallFormulas returns formulas of up to two variables and up to two clauses of up to two literals.
func smallFormulas() []api.Formula {
	var all []api.Formula
	for n := range 3 {
		var literals []int
		for v := 1; v <= n; v++ {
			literals = append(literals, v, -v)
		}
		for _, clauses := range lists(lists(literals, 2), 2) {
			all = append(all, formula(n, clauses...))
		}
	}
	return append(all, formula(api.MaxVars, []int{api.MaxVars, -api.MaxVars}), formula(10, []int{10, -9, 7}, nil, nil, []int{-10}))
}

// text is what Format of a valid formula has to return, if it is not too long.
func text(f api.Formula) string {
	s := fmt.Sprintf("p cnf %d %d\n", f.Vars, len(f.Clauses))
	for _, c := range f.Clauses {
		for _, x := range c {
			s += fmt.Sprintf("%d ", x)
		}
		s += "0\n"
	}
	return s
}

// answer is what Parse returns.
type answer struct {
	f    api.Formula
	line int
	e    api.Errno
}

// parse returns what Parse returns.
func parse(s string) answer {
	f, line, e := dimacs.Parse(s)
	return answer{f, line, e}
}

// fault is the answer with an error.
func fault(line int, e api.Errno) answer {
	return answer{api.Formula{}, line, e}
}

// same reports whether two answers are equal.
func same(a, b answer) bool {
	return a.line == b.line && a.e == b.e && a.f.Vars == b.f.Vars && slices.EqualFunc(a.f.Clauses, b.f.Clauses, slices.Equal[[]int])
}

// mustParse returns the formula of a text that has to be accepted.
func mustParse(t *testing.T, s string) api.Formula {
	t.Helper()
	x := parse(s)
	if x.e != api.OK || x.line != 0 {
		t.Fatalf("Parse(%q): line %d, error %d", s, x.line, x.e)
	}
	return x.f
}

// mustFormat returns the text of a formula that has to have one.
func mustFormat(t *testing.T, f api.Formula) string {
	t.Helper()
	s, e := dimacs.Format(f)
	if e != api.OK {
		t.Fatalf("Format(%v): error %d", f, e)
	}
	return s
}

// shorten returns the first bytes of a text, for messages.
func shorten(s string) string {
	if len(s) > 60 {
		return fmt.Sprintf("%q.. (%d bytes)", s[:60], len(s))
	}
	return fmt.Sprintf("%q", s)
}

var numberForm = regexp.MustCompile(`^(0|-?[1-9][0-9]*)$`)

// compare returns the sign of a number minus a limit, after its sign is dropped.
func compare(w string, limit int) int {
	x, _ := new(big.Int).SetString(w, 10)
	return x.CmpAbs(big.NewInt(int64(limit)))
}

// model is the answer that the chapter asks for, from all lines with their words, one after the other.
func model(s string) answer {
	if len(s) > api.MaxText {
		return fault(0, api.ErrLong)
	}
	all := strings.Split(s, "\n")
	if all[len(all)-1] == "" {
		all = all[:len(all)-1]
	}
	var f api.Formula
	clauses, open := -1, []int(nil)
	for i, line := range all {
		words := slices.DeleteFunc(strings.Split(strings.ReplaceAll(line, "\t", " "), " "), func(w string) bool { return w == "" })
		if len(words) == 0 || words[0] == "c" {
			continue
		}
		if clauses < 0 {
			if e := modelHeader(words); e != api.OK {
				return fault(i+1, e)
			}
			fmt.Sscan(words[2], &f.Vars)
			fmt.Sscan(words[3], &clauses)
			continue
		}
		for _, w := range words {
			if len(f.Clauses) == clauses || !numberForm.MatchString(w) {
				return fault(i+1, api.ErrForm)
			}
			if w == "0" {
				f.Clauses = append(f.Clauses, open)
				open = nil
				continue
			}
			if compare(w, f.Vars) > 0 {
				return fault(i+1, api.ErrRange)
			}
			if len(open) == api.MaxClause {
				return fault(i+1, api.ErrLong)
			}
			var x int
			fmt.Sscan(w, &x)
			open = append(open, x)
		}
	}
	if len(f.Clauses) != clauses {
		return fault(len(all)+1, api.ErrForm)
	}
	return answer{f, 0, api.OK}
}

// modelHeader is the error of a header.
func modelHeader(words []string) api.Errno {
	switch {
	case len(words) != 4 || words[0] != "p" || words[1] != "cnf":
		return api.ErrForm
	case !numberForm.MatchString(words[2]) || !numberForm.MatchString(words[3]):
		return api.ErrForm
	case words[2][0] == '-' || words[3][0] == '-':
		return api.ErrForm
	case compare(words[2], api.MaxVars) > 0:
		return api.ErrRange
	case compare(words[3], api.MaxClauses) > 0:
		return api.ErrLong
	}
	return api.OK
}

// P3.1

func TestFormatExamples(t *testing.T) {
	for _, x := range []struct {
		f    api.Formula
		want string
	}{
		{formula(3, []int{1, -3}, nil), "p cnf 3 2\n1 -3 0\n0\n"},
		{api.Formula{}, "p cnf 0 0\n"},
		{formula(0, nil), "p cnf 0 1\n0\n"},
		{formula(7), "p cnf 7 0\n"},
		{formula(12, []int{12, -11, 12, 12, -12}), "p cnf 12 1\n12 -11 12 12 -12 0\n"},
		{formula(api.MaxVars, []int{-api.MaxVars, api.MaxVars}), "p cnf 1048576 1\n-1048576 1048576 0\n"},
	} {
		if s := mustFormat(t, x.f); s != x.want {
			t.Errorf("Format(%v) = %q, want %q", x.f, s, x.want)
		}
	}
}

func TestFormatOfSmallFormulas(t *testing.T) {
	for _, f := range smallFormulas() {
		if s, want := mustFormat(t, f), text(f); s != want {
			t.Errorf("Format(%v) = %q, want %q", f, s, want)
		}
	}
}

func TestFormatErrors(t *testing.T) {
	long := repeat(1, api.MaxClause+1)
	for _, x := range []struct {
		name string
		f    api.Formula
		want api.Errno
	}{
		{"negative variables", formula(-1), api.ErrRange},
		{"least variables", formula(math.MinInt), api.ErrRange},
		{"too many variables", formula(api.MaxVars + 1), api.ErrRange},
		{"too many clauses", formula(1, many(api.MaxClauses+1, 1)...), api.ErrLong},
		{"the literal 0", formula(1, []int{1, 0}), api.ErrRange},
		{"a literal out of range", formula(1, []int{1}, []int{-2}), api.ErrRange},
		{"a long clause", formula(1, long), api.ErrLong},
		{"a literal, then a long clause", formula(1, []int{2}, long), api.ErrRange},
		{"a long clause, then a literal", formula(1, long, []int{2}), api.ErrLong},
		{"a text too long, then a literal", formula(1, append(many(40000, 1), []int{0})...), api.ErrRange},
		{"a text too long", formula(1, many(40000, 1)...), api.ErrLong},
		{"as many clauses as there may be", formula(1, many(api.MaxClauses)...), api.ErrLong},
		{"as many literals as there may be", formula(api.MaxVars, many(1<<14, repeat(-api.MaxVars, api.MaxClause)...)...), api.ErrLong},
	} {
		if s, e := dimacs.Format(x.f); s != "" || e != x.want {
			t.Errorf("%s: %s, %d, want %d", x.name, shorten(s), e, x.want)
		}
		if e := cnf.Check(x.f); e != api.OK && e != x.want {
			t.Errorf("%s: the error of Check is %d", x.name, e)
		}
	}
}

func TestFormatAtTheLimit(t *testing.T) {
	// The header has 14 bytes, and each clause 2.
	clauses := many((api.MaxText - 14) / 2)
	f := formula(9, clauses...)
	if s := mustFormat(t, f); len(s) != api.MaxText || s != text(formula(9))[:8]+fmt.Sprint(len(clauses))+"\n"+strings.Repeat("0\n", len(clauses)) {
		t.Errorf("a text of MaxText bytes: %s", shorten(s))
	}
	f.Vars = 10
	if s, e := dimacs.Format(f); s != "" || e != api.ErrLong {
		t.Errorf("a text of a byte more: %s, %d", shorten(s), e)
	}
	// Here the last clause alone makes the text longer by more than a byte.
	f = formula(9, append(many(len(clauses)-1), repeat(-9, api.MaxClause))...)
	if s, e := dimacs.Format(f); s != "" || e != api.ErrLong {
		t.Errorf("a text that its last clause makes too long: %s, %d", shorten(s), e)
	}
}

// P3.2

func TestParseExamples(t *testing.T) {
	for s, want := range map[string]answer{
		"p cnf 3 2\n1 -3 0\n0\n":            {f: formula(3, []int{1, -3}, nil)},
		"p cnf 3 2\n1 -3 0\n0":              {f: formula(3, []int{1, -3}, nil)},
		"c x\np cnf 2 1\nc\n1\n2 0":         {f: formula(2, []int{1, 2})},
		"p cnf 0 0":                         {},
		"":                                  fault(1, api.ErrForm),
		"c":                                 fault(2, api.ErrForm),
		"p cnf 2":                           fault(1, api.ErrForm),
		"p cnf 2 -1":                        fault(1, api.ErrForm),
		"p cnf 1048577 0":                   fault(1, api.ErrRange),
		"p cnf 0 1048577":                   fault(1, api.ErrLong),
		"p cnf 2 1\n1 3 0":                  fault(2, api.ErrRange),
		"p cnf 2 1\n1 x 0":                  fault(2, api.ErrForm),
		"p cnf 2 1\n1 02 0":                 fault(2, api.ErrForm),
		"p cnf 2 1\n1 0\n2 0":               fault(3, api.ErrForm),
		"p cnf 2 1\n1 2":                    fault(3, api.ErrForm),
		"p cnf 2 1\n1 2\n":                  fault(3, api.ErrForm),
		"\n":                                fault(2, api.ErrForm),
		"\n\n \n\t":                         fault(5, api.ErrForm),
		"c\nc p cnf 0 0\n":                  fault(3, api.ErrForm),
		"p cnf 0 1":                         fault(2, api.ErrForm),
		"p cnf 0 1\n\n\n":                   fault(4, api.ErrForm),
		"\n c \n\tp\t cnf 1  1\t\n\n\n1\n0": {f: formula(1, []int{1})},
	} {
		if x := parse(s); !same(x, want) {
			t.Errorf("Parse(%q) = %v, want %v", s, x, want)
		}
	}
}

func TestParseHeaders(t *testing.T) {
	for header, want := range map[string]api.Errno{
		"p cnf 0 0":                          api.OK,
		"p cnf 5 0":                          api.OK,
		"p cnf 1048576 0":                    api.OK,
		"p":                                  api.ErrForm,
		"p cnf":                              api.ErrForm,
		"cnf 0 0":                            api.ErrForm,
		"q cnf 0 0":                          api.ErrForm,
		"P cnf 0 0":                          api.ErrForm,
		"p CNF 0 0":                          api.ErrForm,
		"p cnf0 0":                           api.ErrForm,
		"pcnf 0 0 0":                         api.ErrForm,
		"p cnf 0 0 0":                        api.ErrForm,
		"p cnf 0 0 c":                        api.ErrForm,
		"p cnf 0 0 p cnf 0 0":                api.ErrForm,
		"0":                                  api.ErrForm,
		"cc":                                 api.ErrForm,
		"comment":                            api.ErrForm,
		"C":                                  api.ErrForm,
		"p cnf -1 0":                         api.ErrForm,
		"p cnf -0 0":                         api.ErrForm,
		"p cnf +1 0":                         api.ErrForm,
		"p cnf 01 0":                         api.ErrForm,
		"p cnf 00 0":                         api.ErrForm,
		"p cnf 1 00":                         api.ErrForm,
		"p cnf 1 -0":                         api.ErrForm,
		"p cnf 1. 0":                         api.ErrForm,
		"p cnf 1_0 0":                        api.ErrForm,
		"p cnf 0x1 0":                        api.ErrForm,
		"p cnf 1 0\r":                        api.ErrForm,
		"p cnf\v1 0":                         api.ErrForm,
		"p cnf\u00a01 0":                     api.ErrForm,
		"p cnf \u0661 0":                     api.ErrForm,
		"p cnf 1 0\x00":                      api.ErrForm,
		"p cnf 1 \xff":                       api.ErrForm,
		"p cnf 2 -1":                         api.ErrForm,
		"p cnf 1048577 -1":                   api.ErrForm,
		"p cnf 1048577 x":                    api.ErrForm,
		"p cnf 1048577 0 0":                  api.ErrForm,
		"p cnf x 1048577":                    api.ErrForm,
		"p cnf 1048577 0":                    api.ErrRange,
		"p cnf 1048577 1048577":              api.ErrRange,
		"p cnf 18446744073709551616 0":       api.ErrRange,
		"p cnf 18446744073709551617 1048577": api.ErrRange,
		"p cnf 4294967296 0":                 api.ErrRange,
		"p cnf 0 1048577":                    api.ErrLong,
		"p cnf 1048576 1048577":              api.ErrLong,
		"p cnf 0 18446744073709551616":       api.ErrLong,
		"p cnf 0 -18446744073709551616":      api.ErrForm,
		"p cnf -18446744073709551616 0":      api.ErrForm,
	} {
		for before, line := range map[string]int{"": 1, "\n": 2, "c\n \t\nc c x 0\n": 4} {
			for _, after := range []string{"", "\n", "\nc 1\n"} {
				s := before + header + after
				x := parse(s)
				if x.e != want || x.e == api.OK && x.line != 0 || x.e != api.OK && !same(x, fault(line, want)) {
					t.Errorf("Parse(%q) = %v, want error %d in line %d", s, x, want, line)
				}
			}
		}
	}
}

func TestParseNumberOfClausesAtTheLimit(t *testing.T) {
	// No text can have so many clauses, but the header alone is right.
	if x := parse("p cnf 1048576 1048576\n1 0\n0\n"); !same(x, fault(4, api.ErrForm)) {
		t.Error("clauses are missing:", x)
	}
	n := (api.MaxText - len("p cnf 0 99999\n")) / 2
	s := fmt.Sprintf("p cnf 0 %d\n%s", n, strings.Repeat("0\n", n))
	if f := mustParse(t, s); f.Vars != 0 || len(f.Clauses) != n {
		t.Error("empty clauses:", f.Vars, len(f.Clauses))
	}
}

func TestParseWords(t *testing.T) {
	for word, want := range map[string]api.Errno{
		"1": api.OK, "-1": api.OK, "10": api.OK, "-10": api.OK, "9": api.OK, "0": api.OK,
		"11": api.ErrRange, "-11": api.ErrRange, "100": api.ErrRange, "1048577": api.ErrRange, "-1048577": api.ErrRange,
		"4294967297": api.ErrRange, "18446744073709551617": api.ErrRange, "-18446744073709551617": api.ErrRange, "9223372036854775808": api.ErrRange, "-9223372036854775808": api.ErrRange,
		"1" + strings.Repeat("0", 5000): api.ErrRange, "-9" + strings.Repeat("9", 5000): api.ErrRange,
		"1" + strings.Repeat("0", 5000) + "x": api.ErrForm, strings.Repeat("0", 5000): api.ErrForm,
		"-": api.ErrForm, "--1": api.ErrForm, "-0": api.ErrForm, "00": api.ErrForm, "01": api.ErrForm, "-01": api.ErrForm, "+1": api.ErrForm, "+0": api.ErrForm, "1-": api.ErrForm, "1-1": api.ErrForm, "-+1": api.ErrForm,
		"1.0": api.ErrForm, "1e0": api.ErrForm, "0x1": api.ErrForm, "1_0": api.ErrForm, "1,": api.ErrForm, "x": api.ErrForm, "p": api.ErrForm, "1c": api.ErrForm, "%": api.ErrForm,
		"1\r": api.ErrForm, "\r": api.ErrForm, "\v": api.ErrForm, "\f": api.ErrForm, "\x00": api.ErrForm, "\xff": api.ErrForm, "\u0661": api.ErrForm, "1\u2009": api.ErrForm, "/": api.ErrForm, ":": api.ErrForm, "1/": api.ErrForm, "1:": api.ErrForm, "11:": api.ErrForm,
	} {
		for before, line := range map[string]int{"": 2, "1": 2, "1\n": 3, "3 \n-3 0 \n\nc\n\t2": 6, "c\n": 3} {
			ends := 1 + strings.Count(before+" "+word+" ", " 0 ")
			s := fmt.Sprintf("p cnf 10 %d\n%s %s 0", ends, before, word)
			if x := parse(s); !same(x, model(s)) || x.e != want || x.e != api.OK && x.line != line {
				t.Errorf("Parse(%s) = %v, want error %d", shorten(s), x, want)
			}
		}
	}
}

func TestParseCommentOnlyByFirstWord(t *testing.T) {
	for s, want := range map[string]answer{
		"p cnf 1 1\nc 1 x\n1 0":    {f: formula(1, []int{1})},
		"p cnf 1 1\n \tc\t1\n1 0":  {f: formula(1, []int{1})},
		"p cnf 1 1\n1 c\n0":        fault(2, api.ErrForm),
		"p cnf 1 1\n1 0 c":         fault(2, api.ErrForm),
		"p cnf 1 1\ncx\n1 0":       fault(2, api.ErrForm),
		"p cnf 1 1\nc1\n1 0":       fault(2, api.ErrForm),
		"p cnf 1 1\nC\n1 0":        fault(2, api.ErrForm),
		"p cnf 1 1\nc\r\n1 0":      fault(2, api.ErrForm),
		"p cnf 1 1\n1\nc 0\n0\nc":  {f: formula(1, []int{1})},
		"p cnf 1 1\n1 0\nc\n\nc 1": {f: formula(1, []int{1})},
		"cnf\np cnf 1 0":           fault(1, api.ErrForm),
	} {
		if x := parse(s); !same(x, want) {
			t.Errorf("Parse(%q) = %v, want %v", s, x, want)
		}
	}
}

func TestParseOrderOfErrors(t *testing.T) {
	full := "p cnf 1 2\n" + strings.Repeat("1\n", api.MaxClause)
	for _, x := range []struct {
		name string
		s    string
		want answer
	}{
		{"all clauses have ended, then out of range", "p cnf 1 1\n0 2", fault(2, api.ErrForm)},
		{"all clauses have ended, then no number", "p cnf 1 0\nx", fault(2, api.ErrForm)},
		{"out of range, then no number", "p cnf 1 1\n2 x 0", fault(2, api.ErrRange)},
		{"no number, then out of range", "p cnf 1 1\nx 2 0", fault(2, api.ErrForm)},
		{"out of range, then missing clauses", "p cnf 1 3\n1\n-2\n", fault(3, api.ErrRange)},
		{"a fault in the header, then one after it", "p cnf 1048577 1\nx", fault(1, api.ErrRange)},
		{"a second header", "p cnf 1 1\np cnf 1 1\n1 0", fault(2, api.ErrForm)},
		{"a clause of MaxClause literals", full + "0 1 0", answer{f: formula(1, repeat(1, api.MaxClause), []int{1})}},
		{"a literal more", full + "1 0 0", fault(api.MaxClause+2, api.ErrLong)},
		{"a literal more, on a line after", full + "\n-1 0 0", fault(api.MaxClause+3, api.ErrLong)},
		{"a literal more, out of range", full + "2 0 0", fault(api.MaxClause+2, api.ErrRange)},
		{"a literal more, no number", full + "-0 0 0", fault(api.MaxClause+2, api.ErrForm)},
		{"a long clause after one that has ended", full + "0 " + strings.Repeat("-1 ", api.MaxClause) + "1", fault(api.MaxClause+2, api.ErrLong)},
		{"two clauses of MaxClause literals", full + "0\n" + strings.Repeat("1 ", api.MaxClause) + "\n0", answer{f: formula(1, many(2, repeat(1, api.MaxClause)...)...)}},
	} {
		if got := parse(x.s); !same(got, x.want) {
			t.Errorf("%s: error %d in line %d, want %d in line %d", x.name, got.e, got.line, x.want.e, x.want.line)
		}
	}
}

func TestParseLongTexts(t *testing.T) {
	for _, start := range []string{"p cnf 1 1\n1 0\nc", "p cnf 1 1\n1 0\n", "\t", "x", "p cnf 1048577 0\n", "p cnf 1 1\nx"} {
		for _, fill := range []string{" ", "\n", "x"} {
			s := start + strings.Repeat(fill, api.MaxText-len(start))
			if x := parse(s); x.e == api.ErrLong || !same(x, model(s)) {
				t.Errorf("Parse(%s) = %v, want %v", shorten(s), x, model(s))
			}
			if x := parse(s + fill); !same(x, fault(0, api.ErrLong)) {
				t.Errorf("Parse(%s) = %v, want ErrLong in line 0", shorten(s+fill), x)
			}
		}
	}
	if x := parse(strings.Repeat("0\n", 1<<20)); !same(x, fault(0, api.ErrLong)) {
		t.Errorf("a text of 2^21 bytes: %v", x)
	}
}

func TestParseOfAllSmallTexts(t *testing.T) {
	for _, words := range lists([]string{"p ", "cnf ", "1 ", "0\t", "c ", "\n"}, 7) {
		s := strings.Join(words, "")
		if x, want := parse(s), model(s); !same(x, want) {
			t.Fatalf("Parse(%q) = %v, want %v", s, x, want)
		}
	}
}

func TestParseOfAllSmallTextsAfterHeader(t *testing.T) {
	for _, words := range lists([]string{" 1", " -2", " 0", " 3", " x", " c", "\n"}, 6) {
		s := "p cnf 2 2\n" + strings.Join(words, "")
		if x, want := parse(s), model(s); !same(x, want) {
			t.Fatalf("Parse(%q) = %v, want %v", s, x, want)
		}
	}
}

func TestParseWithOneByteChanged(t *testing.T) {
	s := "c x\n\tp cnf 12 3\n1 -12 0 \nc\n\n 0\n7\n-10 0"
	for i := range len(s) {
		for b := range 256 {
			for _, changed := range []string{s[:i] + string([]byte{byte(b)}) + s[i+1:], s[:i] + string([]byte{byte(b)}) + s[i:], s[:i] + s[i+1:]} {
				if x, want := parse(changed), model(changed); !same(x, want) {
					t.Fatalf("Parse(%q) = %v, want %v", changed, x, want)
				}
			}
		}
	}
}

// P3.3

func TestParseOfFormat(t *testing.T) {
	formulas := append(smallFormulas(), formula(9, many((api.MaxText-14)/2)...), formula(api.MaxVars, repeat(-api.MaxVars, api.MaxClause), repeat(1, api.MaxClause)))
	for _, f := range formulas {
		s := mustFormat(t, f)
		if g := mustParse(t, s); !cnf.Equal(f, g) {
			t.Errorf("Parse(%s) is not the formula", shorten(s))
		}
	}
}

func TestParseReturnsValidFormulas(t *testing.T) {
	accepted := 0
	for _, header := range []string{"p cnf 0 1", "p cnf 1 1", "p cnf 2 2", "p cnf 1048576 1"} {
		for _, words := range lists([]string{"1 ", "-1 ", "2 ", "1048576 ", "-1048577 ", "0 "}, 4) {
			f, _, e := dimacs.Parse(header + "\n" + strings.Join(words, ""))
			if e == api.OK {
				accepted++
			}
			if e := cnf.Check(f); e != api.OK {
				t.Errorf("Parse of %q and %v is not valid: %v", header, words, f)
			}
		}
	}
	if accepted == 0 {
		t.Error("no text was accepted")
	}
}

// P3.4

func TestParseWithOtherSeparators(t *testing.T) {
	want := formula(3, []int{1, -3}, nil, []int{2})
	separators := []string{" ", "\t", " \t  ", "\n", "\n\n", "\nc\n", " \n\t c 0 x p cnf\n ", "\n\n \nc\n\t"}
	for _, before := range []string{"", "\n", " ", "c\n", "\t\nc p cnf 1 1\n\n\t"} {
		for _, blank := range []string{" ", "\t", " \t\t "} {
			for _, chosen := range lists(separators, 3) {
				if len(chosen) == 0 {
					continue
				}
				s := before + strings.Join([]string{"p", "cnf", "3", "3"}, blank) + "\n"
				for i, w := range []string{"1", "-3", "0", "0", "2", "0"} {
					s += w + chosen[i%len(chosen)]
				}
				for _, after := range []string{"", "\n", "\nc", "\nc 5 0\n\n"} {
					if f := mustParse(t, s+after); !cnf.Equal(f, want) {
						t.Fatalf("Parse(%q) = %v, want %v", s+after, f, want)
					}
				}
			}
		}
	}
}

func TestParseHeaderIsOneLine(t *testing.T) {
	for _, s := range []string{"p\ncnf 1 1\n1 0", "p cnf\n1 1\n1 0", "p cnf 1\n1\n1 0", "p cnf 1 1 1 0", "p cnf 1 1 1\n0", "p\nc\ncnf 1 1\n1 0"} {
		if x := parse(s); !same(x, fault(1, api.ErrForm)) {
			t.Errorf("Parse(%q) = %v, want ErrForm in line 1", s, x)
		}
	}
}

// P3.5

func TestTextsOfDifferentFormulas(t *testing.T) {
	texts := map[string]api.Formula{}
	for _, f := range smallFormulas() {
		s := mustFormat(t, f)
		if g, there := texts[s]; there {
			t.Errorf("%v and %v have the same text %q", f, g, s)
		}
		texts[s] = f
		if again := mustFormat(t, cnf.Copy(f)); again != s {
			t.Errorf("a copy of %v has the text %q in place of %q", f, again, s)
		}
	}
	if mustFormat(t, api.Formula{}) != mustFormat(t, formula(0, [][]int{}...)) || mustFormat(t, formula(1, nil)) != mustFormat(t, formula(1, []int{})) {
		t.Error("nil and empty are not the same")
	}
}

// P3.6

// withoutLastWord returns an accepted text without its last word that is in no comment.
func withoutLastWord(s string) string {
	all := strings.Split(s, "\n")
	for i := len(all) - 1; i >= 0; i-- {
		words := strings.Fields(all[i])
		if len(words) > 0 && words[0] != "c" {
			all[i] = strings.Join(words[:len(words)-1], " ")
			break
		}
	}
	return strings.Join(all, "\n")
}

func TestAcceptedTextsEndWhereTheyHaveTo(t *testing.T) {
	accepted := 0
	for _, header := range []string{"p cnf 0 0", "c\n p cnf 1 1", "p cnf 2 2\nc 0", "p cnf 2 3"} {
		for _, words := range lists([]string{"1 ", "-2 ", "0 ", "\n", "c\n"}, 6) {
			s := header + "\n" + strings.Join(words, "")
			if _, _, e := dimacs.Parse(s); e != api.OK {
				continue
			}
			accepted++
			if x := parse(withoutLastWord(s)); x.e != api.ErrForm || !same(x, model(withoutLastWord(s))) {
				t.Fatalf("Parse(%q), without its last word, = %v", s, x)
			}
			if !strings.HasSuffix(s, "\n") {
				s += "\n"
			}
			for _, more := range []string{"0", "1", "-2", "3", "x", "p", "cx", "\t-\n", "0 c", "p cnf 0 0", "1 0\nc"} {
				if x := parse(s + more); !same(x, fault(strings.Count(s, "\n")+1, api.ErrForm)) {
					t.Fatalf("Parse(%q) = %v", s+more, x)
				}
			}
			if x := parse(s + "c 0"); x.e != api.OK {
				t.Fatalf("Parse(%q) = %v", s+"c 0", x)
			}
		}
	}
	if accepted < 100 {
		t.Error("accepted texts:", accepted)
	}
}

// R3

func TestClausesShareNoMemory(t *testing.T) {
	s := "p cnf 4 4\n1 -2 0 3 0 0 4 4 4 0"
	want := mustParse(t, s)
	for i := range want.Clauses {
		f := mustParse(t, s)
		for j := range f.Clauses[i] {
			f.Clauses[i][j] = 9
		}
		_ = append(f.Clauses[i], 9, 9, 9, 9)
		f.Clauses[i] = want.Clauses[i]
		if !cnf.Equal(f, want) || !cnf.Equal(mustParse(t, s), want) {
			t.Errorf("changing the clause %d made the formula %v", i, f)
		}
	}
}

func TestArgumentsStay(t *testing.T) {
	for _, f := range append(smallFormulas(), formula(1, []int{2}), formula(-1, []int{3, 0})) {
		before := cnf.Copy(f)
		dimacs.Format(f)
		if !cnf.Equal(f, before) {
			t.Errorf("Format changed %v to %v", before, f)
		}
	}
}
