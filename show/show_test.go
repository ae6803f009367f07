package show

import (
	"slices"
	"strings"
	"sync"
	"testing"
	"unsafe"

	"moat/api"
	"moat/lex"
	"moat/syn"
)

// blanked has blanks in the place of two signs, so that all else stands where it stood.
func blanked(s string, one int, other int) string {
	bytes := []byte(s)
	bytes[one], bytes[other] = ' ', ' '
	return string(bytes)
}

// bare leaves out each pair of parentheses without which the tree is the same.
func bare(s string) string {
	dump, _ := syn.Dump(s)
	tokens, _ := lex.Tokens(s)
	var open []int
	for _, token := range tokens {
		if token.Kind != api.TokSign {
			continue
		}
		switch last := len(open) - 1; token.Text {
		case "(":
			open = append(open, token.At)
		case ")":
			less := blanked(s, open[last], token.At)
			if got, _ := syn.Dump(less); got == dump {
				s = less
			}
			open = open[:last]
		}
	}
	return s
}

// isSign tells whether a token is one of the signs.
func isSign(token api.Token, signs string) bool {
	return token.Kind == api.TokSign && strings.Contains(signs, token.Text)
}

// plainText is Text, said in another way: what stands between tokens hangs on the two beside it alone.
func plainText(s string) (string, api.Wrong) {
	if _, wrong := syn.Dump(s); wrong.Code != api.OK {
		return "", wrong
	}
	tokens, _ := lex.Tokens(bare(s))
	text, inner, begins := "", "", true
	for _, token := range tokens {
		if isSign(token, "}") {
			inner = ""
		}
		switch {
		case begins:
			text += inner
		case !isSign(token, ";)") && !strings.HasSuffix(text, "("):
			text += " "
		}
		if token.Kind == api.TokText {
			text += `"` + token.Text + `"`
		} else {
			text += token.Text
		}
		if begins = isSign(token, "{};"); begins {
			text += "\n"
		}
		if isSign(token, "{") {
			inner = "  "
		}
	}
	return text, api.Wrong{}
}

func mustShow(t *testing.T, s string, want string) {
	t.Helper()
	if got, w := Text(s); got != want || w != (api.Wrong{}) {
		t.Errorf("P11.1: Text(%.200q): %.400q, %v; wanted %.400q", s, got, w, want)
	}
	if got, lines := Lines(s), len(strings.Split(want, "\n"))-1; got != lines {
		t.Errorf("P11.1: Lines(%.200q): %d; wanted %d", s, got, lines)
	}
	mustStay(t, s, want)
}

// mustStay asks that a text shown is one of the same tree, that looks as it should.
func mustStay(t *testing.T, s string, shown string) {
	t.Helper()
	if len(shown) > api.MaxText {
		return
	}
	dump, _ := syn.Dump(s)
	if got, w := syn.Dump(shown); got != dump || w.Code != api.OK {
		t.Errorf("P11.1: the tree of Text(%.200q) is another one: %.400q, %v; wanted %.400q", s, got, w, dump)
	}
	if got, w := Text(shown); got != shown || w.Code != api.OK {
		t.Errorf("P11.1: Text(%.200q), shown again: %.400q, %v; wanted %.400q", s, got, w, shown)
	}
}

func mustFail(t *testing.T, s string, want api.Wrong) {
	t.Helper()
	if got, w := Text(s); got != "" || w != want || want.Code == api.OK {
		t.Errorf("P11.1: Text(%.200q): %.200q, %v; wanted %v", s, got, w, want)
	}
	if got := Lines(s); got != 0 {
		t.Errorf("P11.1: Lines(%.200q): %d; wanted 0", s, got)
	}
}

// check holds both calls against plainText.
func check(t *testing.T, s string) {
	t.Helper()
	if want, wrong := plainText(s); wrong.Code != api.OK {
		mustFail(t, s, wrong)
	} else {
		mustShow(t, s, want)
	}
}

// messy has each item and each attribute, with all that may stand between tokens.
const messy = ` # a shop; origin
origin shop"https://a.test";origin	other
"http://b.test:81" # its "own
;
cookie sid	at shop#;
" Secure;  Path=/ "; secret   card ;
endpoint all at shop POST "/all"{#{
 page;inject ; own
; changes;	open; credentials; script
	shop; needs sid;sets sid; gives card ;redirect all;
cors any;cors evil; header"X-A"; allow	"x-a,  x-b" ;
methods "";csp "script-src 'self'; # ";
}network
;endpoint none at other GET "" {	}property p=(not(changed all or((forged all))))and(knows card)or(
stolen sid # )
and(ran shop));property q
= (ran other);
# property r`

func TestADescription(t *testing.T) {
	mustShow(t, messy, `origin shop "https://a.test";
origin other "http://b.test:81";
cookie sid at shop " Secure;  Path=/ ";
secret card;
endpoint all at shop POST "/all" {
  page;
  inject;
  own;
  changes;
  open;
  credentials;
  script shop;
  needs sid;
  sets sid;
  gives card;
  redirect all;
  cors any;
  cors evil;
  header "X-A";
  allow "x-a,  x-b";
  methods "";
  csp "script-src 'self'; # ";
}
network;
endpoint none at other GET "" {
}
property p = not (changed all or forged all) and knows card or stolen sid and ran shop;
property q = ran other;
`)
	check(t, messy)
	mustFail(t, messy+"\n;", api.Wrong{Code: api.ErrSyntax, At: len(messy) + 1})
	for n := range len(messy) {
		check(t, messy[:n])
		check(t, messy[n:])
	}
}

func TestItems(t *testing.T) {
	for _, want := range []string{
		"origin a \"https://a.test\";\n",
		"cookie c at a \"Path=/; Secure\";\n",
		"secret a9_z;\n",
		"network;\n",
		"endpoint e at o GET \"/\" {\n}\n",
		"endpoint at_ at own_ AT \"at\" {\n  own;\n}\n",
		"endpoint e at o X \"\" {\n  page;\n  cors any;\n}\n",
		"property p = knows s;\n",
		"property p = not knows s;\n",
		"property p = (knows a or ran b) and not (ran c and ran d);\n",
	} {
		mustShow(t, want, want)
		mustShow(t, want+want, want+want)
		for _, gap := range []string{" ", "  ", "\t", "\r\n", "\n\n", "# x\n", " # secret \" ;\n ", "#\n#\n"} {
			wide := strings.NewReplacer(" ", gap, ";", gap+";", "{", gap+"{", "}", gap+"}", "(", "("+gap, ")", gap+")").Replace(want)
			if !strings.Contains(want, "; Secure") {
				mustShow(t, gap+wide+gap, want)
				mustShow(t, wide+gap+"network"+gap+";"+wide, want+"network;\n"+want)
			}
		}
		mustShow(t, strings.NewReplacer("\n", "", "; ", "; ", " \"", "\"", " {", "{", "  ", "", " = ", "=", " (", "(", ") ", ")").Replace(want), want)
		mustShow(t, strings.TrimSuffix(want, "\n"), want)
		mustShow(t, want+"# end", want)
	}
	mustShow(t, "secret  a ;", "secret a;\n")
	mustShow(t, "secret\ta#\n;network#;\n;", "secret a;\nnetwork;\n")
	mustShow(t, "secret a; secret a; network; network;", "secret a;\nsecret a;\nnetwork;\nnetwork;\n")
}

func TestTexts(t *testing.T) {
	for _, text := range []string{"", " ", "  ", "a", " a", "a ", "  a  b  ", ";", " ; ", "#", "# a", "{", "}", "{ }", "(a)", "=", "network;", "or", "~!'`\\/", strings.Repeat(" ", api.MaxString), strings.Repeat(";", api.MaxString)} {
		quoted := "\"" + text + "\""
		mustShow(t, "origin  a"+quoted+";", "origin a "+quoted+";\n")
		mustShow(t, "cookie c at a"+quoted+" ;", "cookie c at a "+quoted+";\n")
		for _, word := range []string{"header", "allow", "methods", "csp"} {
			mustShow(t, "endpoint e at o GET"+quoted+"{"+word+quoted+";}", "endpoint e at o GET "+quoted+" {\n  "+word+" "+quoted+";\n}\n")
		}
	}
}

func TestFilesOfNoLines(t *testing.T) {
	for _, s := range []string{"", " ", "\n", "\n\n", " \t\r\n", "#", "# x", "# secret a;", "#\n#", " # \"\n\t# @\n", "#\xff\x00\n", strings.Repeat("\n", api.MaxText), strings.Repeat("#", api.MaxText)} {
		mustShow(t, s, "")
	}
}

func TestAttributes(t *testing.T) {
	const head = "endpoint e at o GET \"/\" {\n"
	attributes := []string{"page", "inject", "own", "changes", "open", "credentials", "script a", "script evil", "needs b", "sets c", "gives d", "redirect e", "cors any", "cors f", "cors evil", "header \"\"", "header \"h\"", "allow \"i,  j\"", "methods \"GET, PUT\"", "csp \"k; l\""}
	all := ""
	for _, a := range attributes {
		line := "  " + a + ";\n"
		mustShow(t, head+a+";}", head+line+"}\n")
		mustShow(t, head+a+" ; "+a+"#\n;} network;", head+line+line+"}\nnetwork;\n")
		mustShow(t, head+"page; "+a+";own;}"+head+a+";}", head+"  page;\n"+line+"  own;\n}\n"+head+line+"}\n")
		mustShow(t, head+line+"}", head+line+"}\n")
		all += line
	}
	mustShow(t, head+strings.ReplaceAll(all, "\n", "")+"}", head+all+"}\n")
	mustShow(t, head+all+all+"}", head+all+all+"}\n")
	mustShow(t, head+"}", head+"}\n")
}

func TestParentheses(t *testing.T) {
	for _, x := range []struct{ s, want string }{
		{"knows a", "knows a"},
		{"(knows a)", "knows a"},
		{"( ((knows a)))", "knows a"},
		{"(changed a)and(forged b)", "changed a and forged b"},
		{"(stolen a)or(ran evil)", "stolen a or ran evil"},
		{"not(knows a)", "not knows a"},
		{"not((knows a))", "not knows a"},
		{"(not knows a)", "not knows a"},
		{"not(not(knows a))", "not not knows a"},
		{"(not(not(not knows a)))", "not not not knows a"},
		// An or within an and, on each side.
		{"(knows a or ran b)and ran c", "(knows a or ran b) and ran c"},
		{"knows a and(ran b or ran c)", "knows a and (ran b or ran c)"},
		{"( (knows a or ran b) ) and( ( ran c or ran d ) )", "(knows a or ran b) and (ran c or ran d)"},
		{"((knows a or ran b) or ran c) and ran d", "(knows a or ran b or ran c) and ran d"},
		// An and within an or.
		{"(knows a and ran b) or ran c", "knows a and ran b or ran c"},
		{"knows a or (ran b and ran c)", "knows a or ran b and ran c"},
		{"((knows a and ran b) or (ran c and ran d))", "knows a and ran b or ran c and ran d"},
		// Within a not.
		{"not ( knows a or ran b )", "not (knows a or ran b)"},
		{"not( (knows a and ran b))", "not (knows a and ran b)"},
		{"not ((not knows a))", "not not knows a"},
		{"not(not(knows a or ran b))", "not not (knows a or ran b)"},
		{"not((knows a or ran b)and ran c)", "not ((knows a or ran b) and ran c)"},
		{"not((knows a and ran b)or ran c)", "not (knows a and ran b or ran c)"},
		// A not within others.
		{"(not knows a) and (not ran b)", "not knows a and not ran b"},
		{"(not knows a) or (not ran b)", "not knows a or not ran b"},
		{"(not (knows a)) or (not (not ran b)) and ran c", "not knows a or not not ran b and ran c"},
		{"not (knows a) and ran b", "not knows a and ran b"},
		// The like within the like.
		{"(knows a or ran b) or ran c", "knows a or ran b or ran c"},
		{"((knows a or ran b) or ran c) or ran d", "knows a or ran b or ran c or ran d"},
		{"knows a or (ran b or ran c)", "knows a or (ran b or ran c)"},
		{"knows a or ran b or (ran c or ran d)", "knows a or ran b or (ran c or ran d)"},
		{"knows a or (ran b or (ran c or ran d))", "knows a or (ran b or (ran c or ran d))"},
		{"(knows a or ran b) or (ran c or ran d)", "knows a or ran b or (ran c or ran d)"},
		{"knows a or ((ran b or ran c) or ran d)", "knows a or (ran b or ran c or ran d)"},
		{"(knows a and ran b) and ran c", "knows a and ran b and ran c"},
		{"((knows a and ran b) and ran c) and ran d", "knows a and ran b and ran c and ran d"},
		{"knows a and (ran b and ran c)", "knows a and (ran b and ran c)"},
		{"knows a and (ran b and (ran c and ran d))", "knows a and (ran b and (ran c and ran d))"},
		{"(knows a and ran b) and (ran c and ran d)", "knows a and ran b and (ran c and ran d)"},
		{"knows a and ((ran b and ran c) and ran d)", "knows a and (ran b and ran c and ran d)"},
		// All of it.
		{"((knows a or ran b) and (stolen c or forged d)) or (((changed e)))", "(knows a or ran b) and (stolen c or forged d) or changed e"},
		{"knows a or ((ran b and (ran c and ran d)) or (not (ran e and ran f)))", "knows a or (ran b and (ran c and ran d) or not (ran e and ran f))"},
		{"knows#(\na#)\nor#and\nnot#\n(ran\tb)", "knows a or not ran b"},
	} {
		want := "property p = " + x.want + ";\n"
		mustShow(t, "property p="+x.s+";", want)
		mustShow(t, "property p=("+x.s+");network;", want+"network;\n")
		mustShow(t, want, want)
		if !strings.Contains(x.s, "#") {
			mustShow(t, "property p = "+strings.NewReplacer("(", "( (", ")", ") )").Replace(x.s)+";", want)
		}
	}
}

// deeper lists formulas that are made of the given ones, each part of them in parentheses.
func deeper(formulas []string) []string {
	all := []string{"knows a"}
	for _, f := range formulas {
		all = append(all, "not ("+f+")")
		for _, g := range formulas {
			all = append(all, "("+f+") and ("+g+")", "("+f+") or ("+g+")")
		}
	}
	return all
}

func TestEachInTheOther(t *testing.T) {
	formulas := deeper(deeper(deeper([]string{"ran b"})))
	if len(formulas) < 2000 {
		t.Fatalf("%d formulas alone", len(formulas))
	}
	for _, formula := range formulas {
		check(t, "property p = "+formula+";")
	}
}

func TestAsDeepAsMayBe(t *testing.T) {
	const most = api.MaxDepth - 1
	wrapped := func(ahead string, behind string, n int) string {
		return "property p = " + strings.Repeat(ahead, n) + "knows a" + strings.Repeat(behind, n) + ";"
	}
	for _, x := range []struct{ ahead, behind, shown, end string }{
		{"not ", "", "not ", ""},
		{"not (", ")", "not ", ""},
		{"(", " or ran b)", "", " or ran b"},
		{"(", " and ran b)", "", " and ran b"},
		{"", " or ran b", "", " or ran b"},
		{"", " and ran b", "", " and ran b"},
	} {
		mustShow(t, wrapped(x.ahead, x.behind, most), wrapped(x.shown, x.end, most)+"\n")
	}
	for _, ahead := range []string{"ran b or (", "ran b and ("} {
		s := wrapped(ahead, ")", most)
		mustShow(t, s, strings.Replace(s, "(knows a)", "knows a", 1)+"\n")
	}
	mustShow(t, wrapped("(", ")", 900), wrapped("", "", 0)+"\n")
	for _, ahead := range []string{"not (", "not not (", "ran b or (", "ran b and ("} {
		for _, further := range []string{"not (", "ran c or (", "ran c and (", "(", "ran c and not (", "not ran c or ("} {
			for n := range 18 {
				check(t, wrapped(ahead+further, "))", n))
				check(t, wrapped("((", " or ran c) and ran d)", n))
				check(t, wrapped("not (("+ahead, ") and ran c) or ran d)", n))
				check(t, "secret s;"+wrapped(ahead, ") and "+ahead+"ran e)", n)+wrapped(further, ")", n))
			}
		}
	}
}

func TestWhatIsWrong(t *testing.T) {
	deep := "property p = " + strings.Repeat("not ", api.MaxDepth) + "knows a;"
	for _, x := range []struct {
		s    string
		want api.Wrong
	}{
		{"secret", api.Wrong{Code: api.ErrSyntax, At: 6}},
		{"secret a", api.Wrong{Code: api.ErrSyntax, At: 8}},
		{"secret a;\nsecret own;", api.Wrong{Code: api.ErrSyntax, At: 17}},
		{"network; ;", api.Wrong{Code: api.ErrSyntax, At: 9}},
		{"endpoint e at o GET \"/\" {page;", api.Wrong{Code: api.ErrSyntax, At: 30}},
		{"endpoint e at o GET \"/\" {};", api.Wrong{Code: api.ErrSyntax, At: 26}},
		{"property p = (knows a;", api.Wrong{Code: api.ErrSyntax, At: 21}},
		{"property p = ();", api.Wrong{Code: api.ErrSyntax, At: 14}},
		{"@", api.Wrong{Code: api.ErrChar}},
		{"network; @", api.Wrong{Code: api.ErrChar, At: 9}},
		{"origin a \"\n\";", api.Wrong{Code: api.ErrChar, At: 9}},
		{"secret " + strings.Repeat("n", api.MaxName+1) + ";", api.Wrong{Code: api.ErrLong, At: 7}},
		{strings.Repeat(" ", api.MaxText+1), api.Wrong{Code: api.ErrLong}},
		{strings.Repeat(";", api.MaxTokens+1), api.Wrong{Code: api.ErrLong, At: api.MaxTokens}},
		{deep, api.Wrong{Code: api.ErrDeep}},
		{"network; " + deep, api.Wrong{Code: api.ErrDeep}},
		{deep + "x", api.Wrong{Code: api.ErrSyntax, At: len(deep)}},
	} {
		mustFail(t, x.s, x.want)
		check(t, x.s)
	}
}

func TestTextsThatGrow(t *testing.T) {
	for _, x := range []struct {
		s, want string
		lines   int
	}{
		{strings.Repeat("secret abcd;", 666), strings.Repeat("secret abcd;\n", 666), 666},
		{strings.Repeat("network;", api.MaxTokens/2), strings.Repeat("network;\n", api.MaxTokens/2), api.MaxTokens / 2},
		{"endpoint e at o GET\"\"{" + strings.Repeat("own;", 995) + "}", "endpoint e at o GET \"\" {\n" + strings.Repeat("  own;\n", 995) + "}\n", 997},
	} {
		mustShow(t, x.s, x.want)
		if got := Lines(x.s); got != x.lines {
			t.Errorf("P11.1: %d lines; wanted %d", got, x.lines)
		}
	}
}

func TestAnswersAreNew(t *testing.T) {
	for _, text := range []string{"network;\n", "secret a;\n", "property p = knows a;\n"} {
		s := strings.Clone(text)
		first, _ := Text(s)
		second, _ := Text(s)
		places := []*byte{unsafe.StringData(s), unsafe.StringData(first), unsafe.StringData(second)}
		if places[0] == places[1] || places[1] == places[2] || s != text || first != text {
			t.Errorf("R4: Text(%.20q) shares memory", s)
		}
	}
}

func TestFromSeveralGoroutines(t *testing.T) {
	want, _ := plainText("secret s;property p=((knows s)or ran a)and ran b;")
	var group sync.WaitGroup
	answers := make([]string, 8)
	for i := range answers {
		group.Go(func() {
			for range 100 {
				answers[i], _ = Text("secret s;property p=((knows s)or ran a)and ran b;")
				if Lines(answers[i]) != 2 || Lines("secret own;") != 0 {
					t.Error("R5: other lines from several goroutines")
				}
			}
		})
	}
	group.Wait()
	if slices.ContainsFunc(answers, func(s string) bool { return s != want }) {
		t.Errorf("R5: another answer from several goroutines: %q", answers)
	}
}

func FuzzShow(f *testing.F) {
	f.Add(messy)
	for _, s := range []string{"", "secret a", "property p=((knows a)and not(ran b or(ran c)));", "property p = " + strings.Repeat("not ", api.MaxDepth) + "knows a;", "endpoint e at o GET \"/\" {cors any;csp \" \";}x", "network; @"} {
		f.Add(s)
	}
	f.Fuzz(func(t *testing.T, s string) { check(t, s) })
}
