package syn

import (
	"slices"
	"strings"
	"sync"
	"testing"
	"unsafe"

	"moat/api"
	"moat/lex"
)

// grammar is the chapter's, as it stands there; its loops are rules that name themselves.
func grammar() map[string][]string {
	return map[string][]string{
		"file":    {"item file", ""},
		"item":    {"origin NAME TEXT ;", "cookie NAME at NAME TEXT ;", "secret NAME ;", "network ;", "endpoint NAME at NAME CAPS TEXT { attrs }", "property NAME = formula ;"},
		"attrs":   {"attr ; attrs", ""},
		"attr":    {"page", "inject", "own", "changes", "open", "credentials", "script NAME", "needs NAME", "sets NAME", "gives NAME", "redirect NAME", "cors any", "cors NAME", "header TEXT", "allow TEXT", "methods TEXT", "csp TEXT"},
		"formula": {"term ors"},
		"ors":     {"or term ors", ""},
		"term":    {"factor ands"},
		"ands":    {"and factor ands", ""},
		"factor":  {"not factor", "( formula )", "changed NAME", "forged NAME", "knows NAME", "stolen NAME", "ran NAME"},
	}
}

// stack is what must come yet; nil: nothing.
type stack struct {
	top  string
	rest *stack
}

// push puts a rule's symbols on a stack, the first on top.
func push(rule string, rest *stack) *stack {
	symbols := strings.Fields(rule)
	for _, symbol := range slices.Backward(symbols) {
		rest = &stack{symbol, rest}
	}
	return rest
}

// spread lists the stacks, or nil, that rules make of one, till each has a token on top.
func spread(rules map[string][]string, s *stack) []*stack {
	if s == nil || rules[s.top] == nil {
		return []*stack{s}
	}
	var all []*stack
	for _, rule := range rules[s.top] {
		all = append(all, spread(rules, push(rule, s.rest))...)
	}
	return all
}

// symbol is what the grammar calls a token.
func symbol(token api.Token) string {
	switch token.Kind {
	case api.TokName:
		return "NAME"
	case api.TokCaps:
		return "CAPS"
	case api.TokText:
		return "TEXT"
	default:
		return token.Text
	}
}

// plainWrong tells where tokens leave all files: it tries all rules at one time.
func plainWrong(tokens []api.Token, size int) api.Wrong {
	rules := grammar()
	stacks := spread(rules, push("file", nil))
	for _, token := range tokens {
		var left []*stack
		for _, s := range stacks {
			if s != nil && s.top == symbol(token) {
				left = append(left, spread(rules, s.rest)...)
			}
		}
		if len(left) == 0 {
			return api.Wrong{Code: api.ErrSyntax, At: token.At}
		}
		stacks = left
	}
	if !slices.Contains(stacks, nil) {
		return api.Wrong{Code: api.ErrSyntax, At: size}
	}
	return api.Wrong{}
}

// yard makes a formula's dump with two stacks.
type yard struct{ dumps, words []string }

func rank(word string) int { return slices.Index([]string{"(", "or", "and", "not"}, word) }

// join joins what stands on top.
func (y *yard) join() {
	word := y.words[len(y.words)-1]
	y.words = y.words[:len(y.words)-1]
	from := len(y.dumps) - 2
	if word == "not" {
		from++
	}
	joined := "(" + word + " " + strings.Join(y.dumps[from:], " ") + ")"
	y.dumps = append(y.dumps[:from], joined)
}

func (y *yard) joinDownTo(least int) {
	for len(y.words) > 0 && rank(y.words[len(y.words)-1]) >= least {
		y.join()
	}
}

// plainFormula is the dump of a formula that is one.
func plainFormula(tokens []api.Token) string {
	y := &yard{}
	for i, token := range tokens {
		switch word := token.Text; word {
		case "not", "(":
			y.words = append(y.words, word)
		case "and", "or":
			y.joinDownTo(rank(word))
			y.words = append(y.words, word)
		case ")":
			y.joinDownTo(1)
			y.words = y.words[:len(y.words)-1]
		case "changed", "forged", "knows", "stolen", "ran":
			y.dumps = append(y.dumps, "("+word+" "+tokens[i+1].Text+")")
		}
	}
	y.joinDownTo(1)
	return y.dumps[0]
}

// plainLine is the dump of an item that is one.
func plainLine(tokens []api.Token) string {
	if tokens[0].Text == "property" {
		return "property " + tokens[1].Text + " " + plainFormula(tokens[3:len(tokens)-1]) + "\n"
	}
	var line string
	for i, token := range tokens {
		switch {
		case token.Kind == api.TokText:
			line += "\"" + token.Text + "\" "
		case token.Kind != api.TokSign:
			line += token.Text + " "
		case token.Text == ";" && i < len(tokens)-1:
			line = strings.TrimSuffix(line, " ") + ") "
		}
		if token.Kind == api.TokSign && i < len(tokens)-2 {
			line += "("
		}
	}
	return strings.TrimSuffix(line, " ") + "\n"
}

// nested is how many parentheses of a text lie in one another.
func nested(s string) int {
	most, open := 0, 0
	for _, c := range s {
		switch c {
		case '(':
			open++
			most = max(most, open)
		case ')':
			open--
		}
	}
	return most
}

// plainSyn is Dump and Items, said in another way.
func plainSyn(s string) (string, []int, api.Wrong) {
	tokens, wrong := lex.Tokens(s)
	if wrong.Code == api.OK {
		wrong = plainWrong(tokens, len(s))
	}
	if wrong.Code != api.OK {
		return "", nil, wrong
	}
	var dump strings.Builder
	var starts []int
	for len(tokens) > 0 {
		last := ";"
		if tokens[0].Text == "endpoint" {
			last = "}"
		}
		end := 1 + slices.IndexFunc(tokens, func(token api.Token) bool { return token.Kind == api.TokSign && token.Text == last })
		line := plainLine(tokens[:end])
		if tokens[0].Text == "property" && nested(line) > api.MaxDepth {
			return "", nil, api.Wrong{Code: api.ErrDeep}
		}
		dump.WriteString(line)
		starts = append(starts, tokens[0].At)
		tokens = tokens[end:]
	}
	return dump.String(), starts, api.Wrong{}
}

// check holds both calls against plainSyn.
func check(t *testing.T, s string) {
	t.Helper()
	dump, starts, wrong := plainSyn(s)
	if got, w := Dump(s); got != dump || w != wrong {
		t.Errorf("P10.1: Dump(%.200q): %.200q, %v; wanted %.200q, %v", s, got, w, dump, wrong)
	}
	if got, w := Items(s); !slices.Equal(got, starts) || w != wrong {
		t.Errorf("P10.1: Items(%.200q): %v, %v; wanted %v, %v", s, got, w, starts, wrong)
	}
}

func mustDump(t *testing.T, s string, want string, starts ...int) {
	t.Helper()
	if got, w := Dump(s); got != want || w != (api.Wrong{}) {
		t.Errorf("P10.1: Dump(%.200q): %.200q, %v; wanted %.200q", s, got, w, want)
	}
	if got, w := Items(s); !slices.Equal(got, starts) || w != (api.Wrong{}) {
		t.Errorf("P10.1: Items(%.200q): %v, %v; wanted %v", s, got, w, starts)
	}
}

func mustFail(t *testing.T, s string, code api.Errno, at int) {
	t.Helper()
	want := api.Wrong{Code: code, At: at}
	if got, w := Dump(s); got != "" || w != want {
		t.Errorf("P10.1: Dump(%.200q): %.200q, %v; wanted %v", s, got, w, want)
	}
	if got, w := Items(s); len(got) != 0 || w != want {
		t.Errorf("P10.1: Items(%.200q): %v, %v; wanted %v", s, got, w, want)
	}
}

// mustFormula asks for the dump of a property's formula.
func mustFormula(t *testing.T, formula string, want string) {
	t.Helper()
	mustDump(t, "property p = "+formula+";", "property p "+want+"\n", 0)
	check(t, "property p="+formula+";")
}

// shop has each item and each attribute, with remarks.
const shop = `# a shop; origin
origin shop "https://a.test"; # its "own
cookie sid at shop "Secure; Path=/";
secret card;
endpoint all at shop POST "/all" { # {
	page; inject; own; changes; open; credentials;
	script shop; needs sid; sets sid; gives card; redirect all;
	cors any; cors evil; header "X-A"; allow "x-a, x-b"; methods "PUT"; csp "script-src 'self'";
}
network;
property p = not (changed all or forged all) and knows card or (stolen sid and ran shop);
# property q`

func TestDumpOfADescription(t *testing.T) {
	mustDump(t, shop, `origin shop "https://a.test"
cookie sid at shop "Secure; Path=/"
secret card
endpoint all at shop POST "/all" (page) (inject) (own) (changes) (open) (credentials) (script shop) (needs sid) (sets sid) (gives card) (redirect all) (cors any) (cors evil) (header "X-A") (allow "x-a, x-b") (methods "PUT") (csp "script-src 'self'")
network
property p (or (and (not (or (changed all) (forged all))) (knows card)) (and (stolen sid) (ran shop)))
`, strings.Index(shop, "origin shop"), strings.Index(shop, "cookie sid"), strings.Index(shop, "secret card"), strings.Index(shop, "endpoint"), strings.Index(shop, "network;"), strings.Index(shop, "property p"))
	check(t, shop)
}

func TestItems(t *testing.T) {
	for _, x := range []struct{ s, want string }{
		{`origin a "https://a.test";`, `origin a "https://a.test"`},
		{`origin a "";`, `origin a ""`},
		{`origin a " ";`, `origin a " "`},
		{`origin a "; # (x) {y} = 'z' ";`, `origin a "; # (x) {y} = 'z' "`},
		{`origin a9_z "x y";`, `origin a9_z "x y"`},
		{`cookie c at a "";`, `cookie c at a ""`},
		{`cookie c at c "Path=/; Secure";`, `cookie c at c "Path=/; Secure"`},
		{`secret s;`, `secret s`},
		{`secret evil;`, `secret evil`},
		{`network;`, `network`},
		{`endpoint e at o GET "/" {}`, `endpoint e at o GET "/"`},
		{`endpoint e at o X "" {}`, `endpoint e at o X ""`},
		{`endpoint e at o AT "at" {own;}`, `endpoint e at o AT "at" (own)`},
		{`property p = knows s;`, `property p (knows s)`},
		{`property p = not knows s;`, `property p (not (knows s))`},
	} {
		mustDump(t, x.s, x.want+"\n", 0)
		mustDump(t, x.s+x.s, x.want+"\n"+x.want+"\n", 0, len(x.s))
		for _, gap := range []string{" ", "\t", "\r\n", "\n\n", "# x\n", " # secret \" ;\n ", "#\n#\n"} {
			mustDump(t, gap+x.s+gap+"network;"+gap+x.s+gap, x.want+"\nnetwork\n"+x.want+"\n", len(gap), 2*len(gap)+len(x.s), 3*len(gap)+len(x.s)+8)
			wide := strings.ReplaceAll(strings.ReplaceAll(x.s, "at o", "at"+gap+"o"), ";", gap+";")
			check(t, wide)
			check(t, wide+"# end")
		}
	}
	mustDump(t, "secret\ta#\n;network#;\n;", "secret a\nnetwork\n", 0, 11)
	mustDump(t, "origin a\"x\";endpoint e at o GET\"/\"{cors any;csp\"y\";}", "origin a \"x\"\nendpoint e at o GET \"/\" (cors any) (csp \"y\")\n", 0, 12)
	mustDump(t, "secret a; secret a; network; network;", "secret a\nsecret a\nnetwork\nnetwork\n", 0, 10, 20, 29)
}

func TestFilesOfNothing(t *testing.T) {
	for _, s := range []string{"", " ", "\n", " \t\r\n", "#", "# x", "# secret a;", "#\n#", " # \"\n\t# @\n", "#\xff\x00\n", strings.Repeat(" ", api.MaxText), strings.Repeat("#", api.MaxText)} {
		mustDump(t, s, "")
	}
}

func TestAttributes(t *testing.T) {
	const head = "endpoint e at o GET \"/\""
	attrs := []string{"page", "inject", "own", "changes", "open", "credentials", "script a", "script evil", "needs b", "sets c", "gives d", "redirect e", "cors any", "cors f", "cors evil", "header \"\"", "header \"h\"", "allow \"i, j\"", "allow \"\"", "methods \"GET, PUT\"", "methods \"\"", "csp \"k; l\"", "csp \"\""}
	all, allDumps := "", ""
	for _, a := range attrs {
		mustDump(t, head+" { "+a+" ; }", head+" ("+a+")\n", 0)
		mustDump(t, head+"{"+a+";"+a+";}", head+" ("+a+") ("+a+")\n", 0)
		mustDump(t, head+"{page;"+a+";#}\nown;}network;", head+" (page) ("+a+") (own)\nnetwork\n", 0, len(head)+len(a)+15)
		mustFail(t, head+"{"+a+"}", api.ErrSyntax, len(head)+1+len(a))
		mustFail(t, head+"{"+a+";;}", api.ErrSyntax, len(head)+2+len(a))
		mustFail(t, head+"{("+a+");}", api.ErrSyntax, len(head)+1)
		mustFail(t, head+"{}"+a+";", api.ErrSyntax, len(head)+2)
		mustFail(t, a+";", api.ErrSyntax, 0)
		all += a + ";\n"
		allDumps += " (" + a + ")"
	}
	mustDump(t, head+"{"+all+"}", head+allDumps+"\n", 0)
	mustDump(t, head+"{"+all+all+"}", head+allDumps+allDumps+"\n", 0)
	for _, a := range []string{"cors \"any\"", "cors", "cors own", "cors GET", "cors any any", "cors any a", "cors a any", "cors a b", "script any", "script \"a\"", "needs", "needs own", "needs b c", "page a", "page \"\"", "own any", "header h", "header", "header \"a\" \"b\"", "csp CSP", "allow any", "methods GET", "methods \"GET\" PUT", "any", "credentials any", "\"page\"", "PAGE", "pages", "not", "secret a", "origin a \"\"", "network", "at a", "property", "endpoint e", "knows a", "=", "{"} {
		check(t, head+"{"+a+";}")
		check(t, head+"{own;"+a+";page;}")
	}
	mustFail(t, head+"{cors \"any\";}", api.ErrSyntax, 29)
	mustFail(t, head+"{cors any any;}", api.ErrSyntax, 33)
	mustFail(t, head+"{\"page\";}", api.ErrSyntax, 24)
	mustFail(t, head+"{network;}", api.ErrSyntax, 24)
}

func TestFormulas(t *testing.T) {
	for _, x := range []struct{ s, want string }{
		{"changed a", "(changed a)"},
		{"forged a", "(forged a)"},
		{"knows a", "(knows a)"},
		{"stolen a", "(stolen a)"},
		{"ran a", "(ran a)"},
		{"ran evil", "(ran evil)"},
		{"not ran a", "(not (ran a))"},
		{"not not ran a", "(not (not (ran a)))"},
		{"not not not ran a", "(not (not (not (ran a))))"},
		{"knows a or ran b", "(or (knows a) (ran b))"},
		{"knows a and ran b", "(and (knows a) (ran b))"},
		{"knows a or ran b or stolen c", "(or (or (knows a) (ran b)) (stolen c))"},
		{"knows a and ran b and stolen c", "(and (and (knows a) (ran b)) (stolen c))"},
		{"knows a or ran b and stolen c", "(or (knows a) (and (ran b) (stolen c)))"},
		{"knows a and ran b or stolen c", "(or (and (knows a) (ran b)) (stolen c))"},
		{"knows a and ran b or stolen c and forged d", "(or (and (knows a) (ran b)) (and (stolen c) (forged d)))"},
		{"knows a or ran b and stolen c or forged d", "(or (or (knows a) (and (ran b) (stolen c))) (forged d))"},
		{"not knows a and ran b", "(and (not (knows a)) (ran b))"},
		{"not knows a or ran b", "(or (not (knows a)) (ran b))"},
		{"knows a and not ran b", "(and (knows a) (not (ran b)))"},
		{"not knows a and not not ran b or not stolen c", "(or (and (not (knows a)) (not (not (ran b)))) (not (stolen c)))"},
		{"(knows a or ran b) and stolen c", "(and (or (knows a) (ran b)) (stolen c))"},
		{"knows a and (ran b or stolen c)", "(and (knows a) (or (ran b) (stolen c)))"},
		{"knows a or (ran b or stolen c)", "(or (knows a) (or (ran b) (stolen c)))"},
		{"knows a and (ran b and stolen c)", "(and (knows a) (and (ran b) (stolen c)))"},
		{"not (knows a or ran b)", "(not (or (knows a) (ran b)))"},
		{"not (knows a and ran b)", "(not (and (knows a) (ran b)))"},
		{"not (not (knows a)) and ran b", "(and (not (not (knows a))) (ran b))"},
		{"(knows a)", "(knows a)"},
		{"(((knows a)))", "(knows a)"},
		{"(not (knows a))", "(not (knows a))"},
		{"(knows a or ran b) or stolen c", "(or (or (knows a) (ran b)) (stolen c))"},
		{"(knows a and ran b) and stolen c", "(and (and (knows a) (ran b)) (stolen c))"},
		{"knows a or (ran b and stolen c)", "(or (knows a) (and (ran b) (stolen c)))"},
		{"(knows a) and (ran b) or (stolen c)", "(or (and (knows a) (ran b)) (stolen c))"},
		{"((knows a or ran b) and (stolen c or forged d)) or (((changed e)))", "(or (and (or (knows a) (ran b)) (or (stolen c) (forged d))) (changed e))"},
		{"knows a and knows a", "(and (knows a) (knows a))"},
		{"knows#(\na#)\nor#and\nnot#\nran\tb", "(or (knows a) (not (ran b)))"},
	} {
		mustFormula(t, x.s, x.want)
		mustFormula(t, "("+x.s+"\n)", x.want)
		mustFormula(t, "not("+x.s+"\n)", "(not "+x.want+")")
		if !strings.Contains(x.s, "#") {
			mustFormula(t, strings.NewReplacer("(", "((", ")", "))").Replace(x.s), x.want)
		}
	}
}

// property is one of a formula.
func property(formula string) string { return "property p = " + formula + ";" }

func TestDepth(t *testing.T) {
	many := func(part string, n int) string { return strings.Repeat(part, n) }
	const a = "knows a"
	for name, deep := range map[string]func(n int) string{ // each is as deep as n tells
		"nots":             func(n int) string { return many("not ", n-1) + a },
		"ands":             func(n int) string { return a + many(" and "+a, n-1) },
		"ors":              func(n int) string { return a + many(" or "+a, n-1) },
		"ands at right":    func(n int) string { return many(a+" and (", n-1) + a + many(")", n-1) },
		"ors at right":     func(n int) string { return many(a+" or (", n-1) + a + many(")", n-1) },
		"nots in brackets": func(n int) string { return many("not (", n-1) + a + many(")", n-1) },
		"nots at right":    func(n int) string { return a + " or " + many("not ", n-2) + a },
		"nots at left":     func(n int) string { return many("not ", n-2) + a + " and " + a },
		"nots in the midst": func(n int) string {
			return a + " and " + many("not ", n-3) + a + " or " + a
		},
		"in brackets": func(n int) string { return many("(", 40) + many("not ", n-1) + a + many(")", 40) },
	} {
		for n := 3; n <= api.MaxDepth; n++ {
			s := property(deep(n))
			if got, w := Dump(s); w.Code != api.OK || nested(got) != n {
				t.Errorf("P10.1: %s, %d deep: %s, %v", name, n, got, w)
			}
			check(t, s)
		}
		for _, n := range []int{api.MaxDepth + 1, api.MaxDepth + 2, 2 * api.MaxDepth, 150} {
			s := property(deep(n))
			for _, s := range []string{s, " # x\n" + s, "secret a;" + s, s + "secret a;", property(a) + s, s + s, s + property(a), "endpoint e at o GET \"/\" {own;}" + s} {
				mustFail(t, s, api.ErrDeep, 0)
				check(t, s)
			}
		}
		most := property(deep(api.MaxDepth))
		for _, s := range []string{most + most, "secret a;" + most + "network;" + most} {
			if _, w := Dump(s); w.Code != api.OK {
				t.Errorf("P10.1: %s, as deep as may be, twice: %v", name, w)
			}
			check(t, s)
		}
	}
	mustFormula(t, many("(", 900)+a+many(")", 900), "(knows a)")
	mustFormula(t, a+many(" or "+a, api.MaxDepth-1), many("(or ", api.MaxDepth-1)+"(knows a)"+many(" (knows a))", api.MaxDepth-1))
	mustFormula(t, many("(not ", api.MaxDepth-1)+a+many(")", api.MaxDepth-1), many("(not ", api.MaxDepth-1)+"(knows a)"+many(")", api.MaxDepth-1))
	check(t, "endpoint e at o GET \"/\" {"+many("own;", 600)+"}")
	mustFail(t, property(many("not ", 1990)+a), api.ErrDeep, 0)
	mustFail(t, property(a+many(" or "+a, 600)), api.ErrDeep, 0)
	mustFail(t, property(many(a+" or (", 300)+a+many(")", 300)), api.ErrDeep, 0)
}

func TestDeepBesideOtherWrongs(t *testing.T) {
	deep := property(strings.Repeat("not ", api.MaxDepth) + "knows a")
	mustFail(t, deep, api.ErrDeep, 0)
	for _, x := range []struct {
		s  string
		at int // where a property stands behind it
	}{{"x ", 0}, {"; ", 0}, {"secret ", 7}, {"secret own; ", 7}, {"property p = knows a or ", 24}, {"property p = knows a ", 21}, {"endpoint e at o GET \"/\" { ", 26}} {
		mustFail(t, x.s+deep, api.ErrSyntax, x.at)
		mustFail(t, deep+x.s+deep, api.ErrSyntax, len(deep)+x.at)
		check(t, deep+x.s)
	}
	mustFail(t, deep[:len(deep)-1], api.ErrSyntax, len(deep)-1)
	mustFail(t, deep[:len(deep)-1]+")", api.ErrSyntax, len(deep)-1)
	mustFail(t, deep[:len(deep)-1]+"\n", api.ErrSyntax, len(deep))
	mustFail(t, deep+"@", api.ErrChar, len(deep))
	mustFail(t, deep+"\"", api.ErrChar, len(deep))
	mustFail(t, deep+"secret "+strings.Repeat("n", api.MaxName+1)+";", api.ErrLong, len(deep)+7)
	mustFail(t, deep+strings.Repeat(" ", api.MaxText), api.ErrLong, 0)
}

func TestWhatLexCallsWrong(t *testing.T) {
	longName := strings.Repeat("n", api.MaxName+1)
	tokens, _ := lex.Tokens(shop)
	for _, token := range tokens {
		for _, bad := range []string{"@", "9", "-", "\xff", longName, strings.ToUpper(longName), "\"" + strings.Repeat(" ", api.MaxString+1) + "\""} {
			s := shop[:token.At] + " " + bad + " " + shop[token.At:]
			_, want := lex.Tokens(s)
			mustFail(t, s, want.Code, token.At+1)
			mustFail(t, "x y "+s, want.Code, token.At+5)
		}
		mustFail(t, shop[:token.At]+"\"\n", api.ErrChar, token.At)
	}
	mustFail(t, "x @", api.ErrChar, 2)
	mustFail(t, "secret @", api.ErrChar, 7)
	mustFail(t, "secret a; @", api.ErrChar, 10)
	mustFail(t, "secret \"a", api.ErrChar, 7)
	mustFail(t, "@ "+longName, api.ErrChar, 0)
	mustFail(t, strings.Repeat("secret a;", 1000), api.ErrLong, 0)
	mustFail(t, strings.Repeat("x", api.MaxText+1), api.ErrLong, 0)
	mustFail(t, strings.Repeat(";", api.MaxTokens+1), api.ErrLong, api.MaxTokens)
	full := "endpoint e at o GET \"/\"{" + strings.Repeat("own;", (api.MaxTokens-8)/2) + "}"
	check(t, full)
	mustFail(t, full+"network;", api.ErrLong, len(full))
	mustFail(t, full+"@", api.ErrChar, len(full))
}

func TestWrongs(t *testing.T) {
	const e = "endpoint e at o GET \"/\" "
	for _, x := range []struct {
		s  string
		at int
	}{
		{"x", 0}, {"GET", 0}, {"\"\"", 0}, {";", 0}, {"{", 0}, {"}", 0}, {"(", 0}, {")", 0}, {"=", 0}, {"evil;", 0}, {" # c\n x", 6},
		{"at", 0}, {"page;", 0}, {"knows a;", 0}, {"not knows a;", 0}, {"any;", 0}, {"secrets a;", 0}, {"SECRET a;", 0}, {"\"secret\" a;", 0}, {"\"network\";", 0},
		{"secret", 6}, {"secret ", 7}, {"secret # x", 10}, {"secret a", 8}, {"secret a ", 9}, {"secret a #;", 11}, {"secret a\n", 9}, {"secret a;;", 9}, {"secret a; x", 10}, {"secret a b;", 9}, {"secret a at b;", 9},
		{"secret ;", 7}, {"secret own;", 7}, {"secret secret;", 7}, {"secret A;", 7}, {"secret \"a\";", 7}, {"secret (a);", 7}, {"secret = a;", 7}, {"secret a \";\"", 9}, {"secret a}", 8}, {"secret a secret b;", 9},
		{"network", 7}, {"network network;", 8}, {"network a;", 8}, {"network \"\";", 8}, {"network {}", 8}, {"network \";\"", 8},
		{"origin", 6}, {"origin \"\";", 7}, {"origin a", 8}, {"origin a;", 8}, {"origin a b;", 9}, {"origin a GET;", 9}, {"origin a own;", 9}, {"origin a = \"\";", 9}, {"origin a \"\"", 11}, {"origin a \"\" \"\";", 12}, {"origin a at b \"\";", 9},
		{"cookie", 6}, {"cookie a", 8}, {"cookie a;", 8}, {"cookie a \"\";", 9}, {"cookie a b \"\";", 9}, {"cookie a AT b \"\";", 9}, {"cookie a \"at\" b \"\";", 9}, {"cookie a at", 11}, {"cookie a at;", 11}, {"cookie a at \"\";", 12}, {"cookie a at at \"\";", 12}, {"cookie a at b", 13}, {"cookie a at b;", 13}, {"cookie a at b c;", 14}, {"cookie a at b \"\"", 16}, {"cookie at b \"\";", 7},
		{"endpoint", 8}, {"endpoint e GET \"/\" {}", 11}, {"endpoint e at GET \"/\" {}", 14}, {"endpoint e at o \"/\" {}", 16}, {"endpoint e at o get \"/\" {}", 16}, {"endpoint e at o own \"/\" {}", 16}, {"endpoint e at o GET {}", 20}, {"endpoint e at o GET PUT \"/\" {}", 20}, {"endpoint e at o GET x {}", 20}, {"endpoint e at o G E \"/\" {}", 18}, {"endpoint e at o \"GET\" \"/\" {}", 16},
		{e, 24}, {e + ";", 24}, {e + "page;", 24}, {e + "\"/\" {}", 24}, {e + "(", 24}, {e + "}", 24}, {e + "{", 25}, {e + "{ # }", 29}, {e + "{;}", 25}, {e + "{}}", 26}, {e + "{};", 26}, {e + "{{}}", 25}, {e + "{\"}\"", 25},
		{e + "{page", 29}, {e + "{page}", 29}, {e + "{page;", 30}, {e + "{page;;}", 30}, {e + "{page x;}", 30}, {e + "{page \";\"}", 30}, {e + "{x;}", 25}, {e + "{x page;}", 25}, {e + "{script", 31}, {e + "{script;}", 31}, {e + "{script any;}", 32}, {e + "{script own;}", 32}, {e + "{script A;}", 32}, {e + "{script a", 33}, {e + "{script a}", 33}, {e + "{cors;}", 29}, {e + "{cors \"x\";}", 30}, {e + "{csp x;}", 29}, {e + "{csp;}", 28}, {e + "{header own;}", 32}, {e + "{secret x;}", 25}, {e + "{knows x;}", 25},
		{"property", 8}, {"property p", 10}, {"property p;", 10}, {"property p knows a;", 11}, {"property p (knows a);", 11}, {"property = knows a;", 9}, {"property p = ;", 13}, {"property p = =", 13}, {"property p == knows a;", 12}, {"property p \"=\" knows a;", 11},
		{"property p = a;", 13}, {"property p = \"a\";", 13}, {"property p = GET;", 13}, {"property p = any;", 13}, {"property p = page a;", 13}, {"property p = or knows a;", 13}, {"property p = and knows a;", 13}, {"property p = NOT knows a;", 13}, {"property p = \"knows\" a;", 13}, {"property p = {knows a};", 13},
		{"property p = knows", 18}, {"property p = knows;", 18}, {"property p = knows not;", 19}, {"property p = knows (a);", 19}, {"property p = knows \"a\";", 19}, {"property p = knows A;", 19}, {"property p = knows knows a;", 19}, {"property p = knows a", 20}, {"property p = knows a b;", 21}, {"property p = knows a knows b;", 21}, {"property p = knows a not knows b;", 21}, {"property p = knows a (knows b);", 21}, {"property p = knows a }", 21},
		{"property p = knows a or", 23}, {"property p = knows a or;", 23}, {"property p = knows a or or knows b;", 24}, {"property p = knows a or and knows b;", 24}, {"property p = knows a and", 24}, {"property p = knows a and;", 24}, {"property p = knows a and b;", 25}, {"property p = knows a \"or\" knows b;", 21}, {"property p = knows a OR knows b;", 21},
		{"property p = not", 16}, {"property p = not;", 16}, {"property p = not a;", 17}, {"property p = not or knows a;", 17}, {"property p = not not;", 20}, {"property p = not ();", 18}, {"property p = not)", 16},
		{"property p = (", 14}, {"property p = ()", 14}, {"property p = );", 13}, {"property p = (;", 14}, {"property p = (knows a", 21}, {"property p = (knows a;", 21}, {"property p = (knows a or);", 24}, {"property p = (knows a) knows b;", 23}, {"property p = (knows a) (knows b);", 23}, {"property p = knows a);", 20}, {"property p = (knows a));", 22}, {"property p = ((knows a);", 23}, {"property p = \"(\" knows a);", 13}, {"property p = (knows a \")\";", 22}, {"property p = (not) knows a;", 17}, {"property p = (or knows a);", 14}, {"property p = (knows a and (knows b) or;", 38},
		{"x secret a b;", 0}, {"secret a b; x", 9}, {"secret a; network x; secret", 18}, {"secret a secret", 9}, {"property p = knows a; ) (", 22},
	} {
		mustFail(t, x.s, api.ErrSyntax, x.at)
		mustFail(t, "network; "+x.s, api.ErrSyntax, x.at+9)
		mustFail(t, shop+"\n"+x.s, api.ErrSyntax, x.at+len(shop)+1)
		check(t, x.s+" x")
	}
}

// others are tokens of every kind, words and signs all.
func others() []string {
	return append(strings.Fields("origin cookie secret endpoint property network at page inject script needs header own sets gives changes redirect open cors any credentials allow methods csp and or not changed forged knows stolen ran { } ( ) ; = x evil GET \"\" \"x\""),
		"\"own\"", "\";\"", "\"}\"", "\")\"")
}

// pieces cuts a description into its tokens, with what stands ahead of each.
func pieces(s string) []string {
	tokens, _ := lex.Tokens(s)
	var cut []string
	from := 0
	for _, token := range tokens[1:] {
		cut = append(cut, s[from:token.At])
		from = token.At
	}
	return append(cut, s[from:])
}

func TestAtEachPlaceAnotherToken(t *testing.T) {
	cut := pieces(shop)
	for i := range cut {
		ahead, behind := strings.Join(cut[:i], ""), strings.Join(cut[i:], "")
		rest := strings.Join(cut[i+1:], "")
		check(t, ahead)
		check(t, strings.TrimRight(ahead, " \t\n"))
		check(t, ahead+" # end")
		check(t, behind)
		check(t, ahead+rest)
		check(t, ahead+cut[i]+behind)
		for _, other := range others() {
			check(t, ahead+" "+other)
			check(t, ahead+" "+other+" "+rest)
			check(t, ahead+" "+other+" "+behind)
		}
	}
}

func TestShortDescriptions(t *testing.T) {
	for head, parts := range map[string][]string{
		"":                             {"secret ", "a ", "; ", "network ", "property p = knows a ", "endpoint e at o GET \"\" ", "{ ", "} ", "own "},
		"property p = ":                {"knows a ", "ran ", "a ", "not ", "and ", "or ", "( ", ") ", "; "},
		"property p = (not knows a or": {"knows a ", "not ", "and ", "or ", "( ", ") ", "; "},
		"endpoint e at o GET \"/\" {":  {"page ", "cors ", "any ", "a ", "needs ", "csp ", "\"\" ", "; ", "} "},
	} {
		texts := []string{head + " "}
		for range 5 {
			var longer []string
			for _, s := range texts {
				check(t, s)
				for _, part := range parts {
					longer = append(longer, s+part)
				}
			}
			texts = longer
		}
	}
}

func TestLongDescriptions(t *testing.T) {
	many := strings.Repeat("network;", api.MaxTokens/2)
	if len(many) != api.MaxText {
		t.Fatalf("%d bytes", len(many))
	}
	check(t, many)
	if got, w := Items(many); w.Code != api.OK || len(got) != api.MaxTokens/2 {
		t.Errorf("P10.1: %d items, %v", len(got), w)
	}
	mustFail(t, many[:len(many)-1], api.ErrSyntax, len(many)-1)
	mustFail(t, many[:len(many)-1]+" ", api.ErrSyntax, len(many))
	mustFail(t, property(strings.Repeat("(", 1900)), api.ErrSyntax, 13+1900)
	mustFail(t, "property p ="+strings.Repeat("(", api.MaxTokens-3), api.ErrSyntax, api.MaxTokens+9)
	mustFail(t, "property p ="+strings.Repeat("not ", api.MaxTokens-4)+"x", api.ErrSyntax, 12+4*(api.MaxTokens-4))
	mustFail(t, property(strings.Repeat("(", 900)+"knows a"+strings.Repeat(")", 899)), api.ErrSyntax, 13+900+7+899)
	mustFail(t, property(strings.Repeat("(", 900)+"knows a"+strings.Repeat(")", 901)), api.ErrSyntax, 13+900+7+900)
	shops := strings.Repeat(shop+"\n", 15)
	for n := range len(shop) {
		check(t, shops[:len(shops)-n])
		check(t, shops[n:])
	}
}

// overlaps tells whether two texts have memory in common.
func overlaps(s string, other string) bool {
	if s == "" || other == "" {
		return false
	}
	a, b := uintptr(unsafe.Pointer(unsafe.StringData(s))), uintptr(unsafe.Pointer(unsafe.StringData(other)))
	return a < b+uintptr(len(other)) && b < a+uintptr(len(s))
}

func TestAnswersAreNew(t *testing.T) {
	for _, text := range []string{"network;", "secret a;", shop} {
		s := strings.Clone(text)
		first, _ := Dump(s)
		second, _ := Dump(s)
		if overlaps(s, first) || overlaps(first, second) {
			t.Errorf("R4: Dump(%.20q) shares memory", s)
		}
		starts, _ := Items(s)
		starts[0] = -1
		check(t, s)
		if s != text {
			t.Errorf("R4: %.20q was changed", text)
		}
	}
}

func TestFromSeveralGoroutines(t *testing.T) {
	dump, starts, _ := plainSyn(shop)
	var group sync.WaitGroup
	for range 8 {
		group.Go(func() {
			for range 100 {
				got, w := Dump(shop)
				items, v := Items(shop)
				none, wrong := Dump("secret own;")
				if got != dump || !slices.Equal(items, starts) || w != v || w.Code != api.OK || none != "" || wrong != (api.Wrong{Code: api.ErrSyntax, At: 7}) {
					t.Error("R5: another answer from several goroutines")
				}
			}
		})
	}
	group.Wait()
}

func FuzzSyn(f *testing.F) {
	f.Add(shop)
	for _, s := range []string{"", "secret a", "property p=((knows a)and not ran b);", "property p = " + strings.Repeat("not ", api.MaxDepth) + "knows a;", "endpoint e at o GET \"/\" {cors any;csp \"\";}x", "network; @"} {
		f.Add(s)
	}
	f.Fuzz(func(t *testing.T, s string) { check(t, s) })
}
