package wf

import (
	"slices"
	"strconv"
	"strings"
	"testing"

	"moat/api"
)

// names makes: origins a (https) and b (http) of one host, h of another one; cookies c (Secure) and d of a, k of h; secrets s and z; endpoints e and f; property p.
const names = `origin a "https://a.test"; origin b "http://a.test"; origin h "https://h.test";
cookie c at a "Secure"; cookie d at a ""; cookie k at h ""; secret s; secret z;
endpoint e at a GET "/" { } endpoint f at b POST "/f" { } property p = knows s; `

var made = []string{"a", "b", "h", "c", "d", "k", "s", "z", "e", "f", "p"}

func mustBe(t *testing.T, s string, want ...string) {
	t.Helper()
	if got := Check(s); got != (api.Wrong{}) {
		t.Errorf("P12.1: Check(%.900q): %v; wanted none", s, got)
	}
	if got := Names(s); !slices.Equal(got, want) {
		t.Errorf("P12.1: Names(%.900q): %q; wanted %q", s, got, want)
	}
	check(t, s)
}

// mustFail takes a text in which @ stands ahead of what is wrong.
func mustFail(t *testing.T, marked string, code api.Errno) {
	t.Helper()
	ahead, behind, found := strings.Cut(marked, "@")
	if !found {
		t.Fatalf("no mark in %q", marked)
	}
	mustTell(t, ahead+behind, api.Wrong{Code: code, At: len(ahead)})
	check(t, ahead+behind)
}

func mustTell(t *testing.T, s string, want api.Wrong) {
	t.Helper()
	if got := Check(s); got != want {
		t.Errorf("P12.1: Check(%.900q): %v; wanted %v", s, got, want)
	}
	if got := Names(s); len(got) != 0 {
		t.Errorf("P12.1: Names(%.900q): %q, of what is wrong", s, got)
	}
}

// in is a description of an endpoint x, at an origin, with these attributes.
func in(origin string, attributes string) string {
	return names + "endpoint x at " + origin + " GET \"/x\" { " + attributes + " }"
}

// also lists the names that are made, and more behind them.
func also(more ...string) []string { return append(slices.Clone(made), more...) }

// full has each item, attribute, and word of formulas.
const full = `# a shop
property lost = changed buy or forged buy and not (knows card or stolen sid) and ran other; # names made further on
origin shop "https://a.test:8443";
cookie sid at shop "Domain=a.test; Path=/; Secure; HttpOnly; SameSite=None";
cookie lang at other " path=/x ";
origin other "http://b.test";
secret card; secret pin;
endpoint buy at shop POST "/buy" {
  page; inject; own; changes; open; credentials;
  script shop; script other; script evil;
  needs sid; needs lang; sets sid; gives card; gives pin;
  cors any; cors evil; cors shop; cors other;
  header "X-A"; header "x-b"; allow "X-A, x-b,,"; methods " PUT,DELETE , PATCH"; csp "script-src 'self'";
}
network;
endpoint back at other HEAD "/" { redirect buy; sets lang; allow ""; methods "GET"; csp ""; }
property never = knows pin;`

func TestRight(t *testing.T) {
	mustBe(t, full, "lost", "shop", "sid", "lang", "other", "card", "pin", "buy", "back", "never")
	mustBe(t, names, made...)
	for _, s := range []string{"", " ", "\n#\n", "# secret a; secret a;", "network;"} {
		mustBe(t, s)
	}
	mustBe(t, "secret a;", "a")
	mustBe(t, "secret b; network; secret a;", "b", "a")
	mustBe(t, "origin a \"https://a.test\";", "a")
	mustBe(t, "origin a_9 \"http://localhost:8080\";", "a_9")
	mustBe(t, names+"network;", made...)
	for _, a := range []string{"page;", "inject;", "own;", "changes;", "open;", "credentials;", "script a;", "script h;", "script evil;", "needs c;", "needs k;", "sets c;", "sets d;", "redirect e;", "redirect x;", "cors any;", "cors b;", "cors evil;", "header \"X-A\";", "allow \"\";", "allow \"X-A\";", "methods \"GET\";", "csp \"\";", "csp \"any; thing\";", "gives s; needs d;", "needs d; gives s;"} {
		mustBe(t, in("a", a), also("x")...)
	}
	for _, formula := range []string{"changed e", "forged f", "knows s", "stolen c", "ran a", "ran h", "not knows z", "(knows s)", "knows s and knows s", "knows s or knows s", "not (changed e and (stolen k or ran b))"} {
		mustBe(t, names+"property q = "+formula+";", also("q")...)
	}
	for _, method := range []string{"GET", "HEAD", "POST", "PUT", "DELETE", "PATCH"} {
		mustBe(t, names+"endpoint x at a "+method+" \"/a/b-c_d.e9\" { }", also("x")...)
	}
}

func TestNamesAheadOfTheirItems(t *testing.T) {
	mustBe(t, "cookie c at a \"Domain=a.test\"; origin a \"https://x.a.test\";", "c", "a")
	mustBe(t, "endpoint e at a GET \"/\" { redirect e; needs c; sets c; gives s; script b; cors b; } property p = changed f or stolen c; endpoint f at b GET \"/\" { } cookie c at a \"Secure\"; secret s; origin b \"http://b.test\"; origin a \"https://a.test\";", "e", "p", "f", "c", "s", "b", "a")
	mustFail(t, "property p = knows @x; secret y;", api.ErrName)
	mustFail(t, "property p = knows @x; origin x \"https://x.test\"; secret x;", api.ErrKind)
	mustFail(t, "property p = knows x; secret x; origin @x \"https://x.test\";", api.ErrTwice)
	mustFail(t, "property p = ran x and knows @x; origin x \"https://x.test\"; secret x;", api.ErrKind)
	mustFail(t, "property p = knows @p;", api.ErrKind)
	mustFail(t, "secret x; property p = knows @p;", api.ErrKind)
	mustFail(t, "property p = knows @q; property q = knows p;", api.ErrKind)
}

func TestEvil(t *testing.T) {
	for _, s := range []string{"secret @evil;", "origin @evil \"https://x.test\";", "origin @evil \"https://evil.test\";", "cookie @evil at a \"\";", "endpoint @evil at a GET \"/\" { }", "property @evil = knows s;"} {
		mustFail(t, s, api.ErrTwice)
		mustFail(t, names+s, api.ErrTwice)
		clean := strings.Replace(s, "@", "", 1)
		mustFail(t, names+s+clean, api.ErrTwice)
		// What is made of that name is not there for others.
		mustFail(t, "property q = ran @evil;"+clean, api.ErrName)
		mustFail(t, "property q = knows @evil;"+clean, api.ErrName)
		mustFail(t, "cookie y at @evil \"\";"+clean, api.ErrName)
		mustFail(t, in("a", "needs @evil;")+clean, api.ErrName)
		mustFail(t, in("a", "redirect @evil;")+clean, api.ErrName)
		mustFail(t, in("a", "script evil; cors evil;")+s, api.ErrTwice)
	}
	for _, a := range []string{"needs @evil;", "sets @evil;", "needs d; gives @evil;", "redirect @evil;"} {
		mustFail(t, in("a", a), api.ErrName)
	}
	for _, word := range []string{"changed", "forged", "knows", "stolen", "ran"} {
		mustFail(t, names+"property q = "+word+" @evil;", api.ErrName)
	}
	mustFail(t, "cookie c at @evil \"\";", api.ErrName)
	mustFail(t, names+"endpoint x at @evil GET \"/\" { }", api.ErrName)
	mustBe(t, names+"secret evil_; secret evi; secret evill;", also("evil_", "evi", "evill")...)
	mustFail(t, in("a", "script @evil_;"), api.ErrName)
}

// anItem is one of that word, and name.
func anItem(word string, name string) string {
	switch word {
	case "origin":
		return "origin " + name + " \"https://" + strings.Trim(name, "@") + ".test\"; "
	case "cookie":
		return "cookie " + name + " at a \"\"; "
	case "secret":
		return "secret " + name + "; "
	case "endpoint":
		return "endpoint " + name + " at a GET \"/\" { } "
	default:
		return "property " + name + " = knows s; "
	}
}

func TestNamesTwice(t *testing.T) {
	words := []string{"origin", "cookie", "secret", "endpoint", "property"}
	for _, one := range words {
		for _, other := range words {
			mustFail(t, names+anItem(one, "n")+anItem(other, "@n"), api.ErrTwice)
			mustFail(t, names+anItem(one, "n")+"network; "+anItem(other, "@n")+anItem(one, "n"), api.ErrTwice)
			mustBe(t, names+anItem(one, "n")+anItem(other, "m"), also("n", "m")...)
			mustBe(t, names+anItem(one, "n")+anItem(other, "n1"), also("n", "n1")...)
		}
		for _, name := range made {
			mustFail(t, names+anItem(one, "@"+name), api.ErrTwice)
		}
	}
	if got := Check("secret a; secret a;"); got != (api.Wrong{Code: api.ErrTwice, At: 17}) {
		t.Errorf("P12.1: the document's example: %v", got)
	}
	mustFail(t, names+"network; @network;", api.ErrTwice)
	mustFail(t, "network;@network;network;", api.ErrTwice)
	mustFail(t, "network; secret n; secret m; @network; network; secret n;", api.ErrTwice)
	mustFail(t, "network; secret n; secret @n; network;", api.ErrTwice)
}

func TestAsManyAsMayBe(t *testing.T) {
	all := names
	for _, x := range []struct {
		word string
		most int
	}{{"origin", api.MaxOrigins - 3}, {"cookie", api.MaxCookies - 3}, {"secret", api.MaxSecrets - 2}, {"endpoint", api.MaxEndpoints - 2}, {"property", api.MaxProps - 1}} {
		s, want := names, also()
		for i := range x.most {
			name := x.word[:3] + strconv.Itoa(i)
			s, want = s+anItem(x.word, name), append(want, name)
			all += anItem(x.word, name)
		}
		mustBe(t, s, want...)
		mustFail(t, s+anItem(x.word, "@n"), api.ErrLong)
		mustFail(t, s+"network; "+anItem(x.word, "@n")+anItem(x.word, "m"), api.ErrLong)
		mustFail(t, s+anItem(x.word, "@n")+anItem(x.word, "n"), api.ErrLong)
		// At one token that it is there twice is told first.
		mustFail(t, s+anItem(x.word, "@s"), api.ErrTwice)
		mustFail(t, s+anItem(x.word, "@evil"), api.ErrTwice)
		mustFail(t, s+anItem(x.word, "@"+x.word[:3]+"0"), api.ErrTwice)
	}
	if got := Check(all); got.Code != api.OK || len(Names(all)) != 34 {
		t.Errorf("P12.1: as much as may be of everything: %v, %d names", got, len(Names(all)))
	}
	check(t, all)
	for _, word := range []string{"origin", "cookie", "secret", "endpoint", "property"} {
		mustFail(t, all+anItem(word, "@n"), api.ErrLong)
		mustFail(t, all+anItem(word, "@a"), api.ErrTwice)
	}
	mustFail(t, "secret a; secret b; secret c; secret d; secret e; secret f; secret @g; secret h;", api.ErrLong)
}

func TestEachPlaceOfAName(t *testing.T) {
	kinds := map[string]string{"a": "origin", "b": "origin", "c": "cookie", "d": "cookie", "s": "secret", "e": "endpoint", "x": "endpoint", "p": "property"}
	for _, place := range []struct{ s, kind string }{
		{"cookie y at @ \"\";", "origin"},
		{"endpoint y at @ GET \"/\" { }", "origin"},
		{in("a", "script @;")[len(names):], "origin"},
		{in("a", "cors @;")[len(names):], "origin"},
		{in("a", "needs @;")[len(names):], "cookie"},
		{in("a", "sets @;")[len(names):], "cookie"},
		{in("a", "needs d; gives @;")[len(names):], "secret"},
		{in("a", "gives @; needs d;")[len(names):], "secret"},
		{in("a", "redirect @;")[len(names):], "endpoint"},
		{"property y = ran @;", "origin"},
		{"property y = stolen @;", "cookie"},
		{"property y = knows @;", "secret"},
		{"property y = changed @;", "endpoint"},
		{"property y = forged @;", "endpoint"},
		{"property y = not ran @;", "origin"},
		{"property y = knows s or (not (stolen @ and knows s));", "cookie"},
		{"property y = knows s and knows @ or knows z;", "secret"},
	} {
		ahead, behind, _ := strings.Cut(place.s, "@")
		for name, kind := range kinds {
			item := ""
			if name == "x" && !strings.Contains(place.s, " x ") {
				item = "endpoint x at a GET \"/\" { }"
			}
			if kind == place.kind {
				if got := Check(names + ahead + name + behind + item); got.Code != api.OK {
					t.Errorf("P12.1: %s with %s: %v", place.s, name, got)
				}
				check(t, names+ahead+name+behind+item)
			} else {
				mustFail(t, names+ahead+"@"+name+behind+item, api.ErrKind)
			}
		}
		for _, name := range []string{"nobody", "aa", "a_", "a1", "z9"} {
			mustFail(t, names+ahead+"@"+name+behind, api.ErrName)
		}
	}
}

func TestOrigins(t *testing.T) {
	for _, text := range []string{"", " ", "a.test", "https://", "https://A.test", "ftp://a.test", "https://a.test:0", "https://a.test:65536", "https://a.test:0443", "https://a.test/", "https://a_.test", "HTTPS://a.test", " https://a.test", "https://a.test ", "https://a..test", "evil.test", "https://" + strings.Repeat("a", 21)} {
		mustFail(t, "origin a @\""+text+"\";", api.ErrForm)
		mustFail(t, names+"origin x @\""+text+"\"; origin y \""+text+"\";", api.ErrForm)
	}
	for _, text := range []string{"https://evil.test", "http://evil.test", "https://evil.test:8443", "http://x.evil.test", "https://x.y.evil.test:1"} {
		mustFail(t, "origin a @\""+text+"\";", api.ErrForm)
		mustFail(t, names+"origin x @\""+text+"\"; origin y \""+text+"\";", api.ErrForm)
	}
	for _, text := range []string{"https://evil.tests", "https://evil.test.com", "https://xevil.test", "https://evil", "https://test", "https://x-evil.test", "https://evil.x.test", "https://evil.test.evil.tes"} {
		mustBe(t, "origin a \""+text+"\";", "a")
	}
	for _, x := range [][2]string{{"https://x.test", "https://x.test"}, {"https://x.test", "https://x.test:443"}, {"https://x.test:443", "https://x.test"}, {"http://x.test", "http://x.test:80"}, {"http://x.test:80", "http://x.test:80"}, {"http://x.test:443", "http://x.test:443"}} {
		mustFail(t, "origin x \""+x[0]+"\"; origin y @\""+x[1]+"\";", api.ErrTwice)
		mustFail(t, "origin x \""+x[0]+"\";"+names+"origin y @\""+x[1]+"\"; origin z \""+x[1]+"\";", api.ErrTwice)
	}
	for _, x := range [][2]string{{"https://x.test", "http://x.test"}, {"https://x.test", "https://x.test:80"}, {"https://x.test:80", "http://x.test"}, {"https://x.test", "https://y.x.test"}, {"https://x.test:1", "https://x.test:2"}} {
		mustBe(t, "origin x \""+x[0]+"\"; origin y \""+x[1]+"\";", "x", "y")
	}
	mustFail(t, "origin x \"https://x.test\"; origin @x \"https://x.test\";", api.ErrTwice)
}

func TestCookies(t *testing.T) {
	for _, text := range []string{"nothing", "Secure=1", "Domain=h.test", "Domain=x.a.test", "Domain=test", "Domain=", "Path=x", "Path=", "SameSite=None", "SameSite", "SameSite=x", "Secure; Secure", "SameSite=None; HttpOnly"} {
		mustFail(t, "origin a \"https://a.test\"; cookie c at a @\""+text+"\";", api.ErrForm)
		mustFail(t, "cookie c at a @\""+text+"\"; origin a \"https://a.test\";", api.ErrForm)
		mustFail(t, names+"cookie x at b @\""+text+"\"; cookie y at b \""+text+"\";", api.ErrForm)
		// Where there is no origin, or none whose text is right, that alone is told.
		mustFail(t, "cookie c at @b \""+text+"\";", api.ErrName)
		mustFail(t, "cookie c at @s \""+text+"\"; secret s;", api.ErrKind)
		mustFail(t, "cookie c at @c \""+text+"\";", api.ErrKind)
		mustFail(t, "cookie c at a \""+text+"\"; origin a @\"https://A.test\";", api.ErrForm)
		mustFail(t, "cookie c at a \""+text+"\"; origin a @\"\";", api.ErrForm)
		mustFail(t, "cookie c at @a \""+text+"\"; secret a; origin a \"https://a.test\";", api.ErrKind)
	}
	for _, text := range []string{"", " ", ";;", "Secure", "secure; HTTPONLY", "Domain=a.test", "Path=/x", "SameSite=None; Secure", "samesite=STRICT", "SameSite=Lax"} {
		mustBe(t, "origin a \"https://a.test\"; cookie c at a \""+text+"\";", "a", "c")
		mustBe(t, "cookie c at a \""+text+"\"; origin a \"http://a.test:99\";", "c", "a")
	}
	// Of two items of one name the first one is the cookie's.
	mustFail(t, "origin a \"https://a.test\"; cookie c at a @\"Domain=b.test\"; origin a \"https://b.test\";", api.ErrForm)
	mustFail(t, "origin a \"https://a.test\"; cookie c at a \"Domain=a.test\"; origin @a \"https://b.test\";", api.ErrTwice)
	mustFail(t, "cookie c at a @\"Domain=b.test\"; origin a \"https://a.test\"; origin a \"https://b.test\";", api.ErrForm)
	mustFail(t, "cookie c at a \"Domain=a.test\"; origin a \"https://a.test\"; origin @a \"https://b.test\";", api.ErrTwice)
	// An origin of the stranger's site is read, though it may not be.
	mustFail(t, "cookie c at a @\"nothing\"; origin a \"https://evil.test\";", api.ErrForm)
	mustFail(t, "cookie c at a \"Domain=evil.test\"; origin a @\"https://x.evil.test\";", api.ErrForm)
}

func TestEndpoints(t *testing.T) {
	for _, caps := range []string{"G", "GETS", "GE", "OPTIONS", "TRACE", "CONNECT", "HTTP", "PUTS", "X", strings.Repeat("G", api.MaxName)} {
		mustFail(t, names+"endpoint x at a @"+caps+" \"/\" { }", api.ErrForm)
		mustFail(t, names+"endpoint x at a @"+caps+" \"\" { page; page; }", api.ErrForm)
	}
	for _, path := range []string{"", " ", "x", "x/", "/X", "/a b", " /", "/ ", "/?", "/a?b", "/#", "https://a.test/", "/" + strings.Repeat("x", 60)} {
		mustFail(t, names+"endpoint x at a GET @\""+path+"\" { }", api.ErrForm)
		mustFail(t, names+"endpoint x at a GET @\""+path+"\" { page; page; }", api.ErrForm)
	}
	for _, path := range []string{"/", "//", "/.", "/..", "/-_.09az/", "/" + strings.Repeat("x", 59)} {
		mustBe(t, names+"endpoint x at a GET \""+path+"\" { }", also("x")...)
	}
	mustBe(t, names+"endpoint x at a GET \"/\" { } endpoint y at a GET \"/\" { }", also("x", "y")...)
	mustBe(t, in("a", "page; needs d; script a;")+"endpoint y at a GET \"/x\" { page; needs d; script a; }", also("x", "y")...)
}

func TestAttributesTwice(t *testing.T) {
	const needs = "needs k; "
	for _, word := range []string{"page", "inject", "own", "changes", "credentials", "open"} {
		mustFail(t, in("a", word+"; @"+word+";"), api.ErrTwice)
		mustFail(t, in("a", needs+word+"; cors any; @"+word+"; "+word+"; cors any;"), api.ErrTwice)
	}
	for _, x := range []struct{ word, one, other, wrong string }{
		{"csp", "\"\"", "\"a\"", "\"\""}, {"allow", "\"a\"", "\"b\"", "\"a b\""}, {"methods", "\"GET\"", "\"PUT\"", "\"x\""}, {"redirect", "e", "f", "nobody"}, {"redirect", "e", "f", "evil"}, {"redirect", "e", "f", "a"},
	} {
		for _, text := range []string{x.one, x.other, x.wrong} {
			mustFail(t, in("a", x.word+" "+x.one+"; @"+x.word+" "+text+";"), api.ErrTwice)
			mustFail(t, in("a", x.word+" "+x.one+"; own; @"+x.word+" "+text+"; own;"), api.ErrTwice)
		}
	}
	mustFail(t, in("a", "open; @redirect e;"), api.ErrTwice)
	mustFail(t, in("a", "redirect e; @open;"), api.ErrTwice)
	mustFail(t, in("a", "open; page; @redirect nobody;"), api.ErrTwice)
	for _, word := range []string{"script", "needs", "sets", "gives", "cors"} {
		one, other := "a", "b"
		switch word {
		case "needs", "sets":
			one, other = "c", "d"
		case "gives":
			one, other = "s", "z"
		}
		mustBe(t, in("a", needs+word+" "+one+"; "+word+" "+other+";"), also("x")...)
		mustFail(t, in("a", needs+word+" "+one+"; "+word+" @"+one+";"), api.ErrTwice)
		mustFail(t, in("a", needs+word+" "+one+"; "+word+" "+other+"; page; "+word+" @"+one+"; "+word+" "+other+";"), api.ErrTwice)
	}
}

func TestTheSameNameOfTwoKinds(t *testing.T) {
	for _, word := range []string{"script", "cors"} {
		mustFail(t, in("a", word+" evil; "+word+" @evil;"), api.ErrTwice)
		mustFail(t, in("a", word+" evil; "+word+" a; "+word+" @evil;"), api.ErrTwice)
	}
	mustBe(t, in("a", "script a; cors a; script evil; cors evil; cors any;"), also("x")...)
	mustBe(t, in("a", "needs c; sets c; sets d; needs d;"), also("x")...)
	mustFail(t, in("a", "script a; cors a; cors @a; script a;"), api.ErrTwice)
	mustFail(t, in("a", "needs c; sets c; needs @c; sets c;"), api.ErrTwice)
	mustFail(t, in("a", "cors any; cors @any;"), api.ErrTwice)
	mustFail(t, in("a", "cors a; cors any; cors b; cors @any;"), api.ErrTwice)
	mustFail(t, in("a", "cors any; cors a; cors @a; cors any;"), api.ErrTwice)
	// What is there once in each of two endpoints is there once.
	mustBe(t, in("a", "page; cors any; cors a; script a; needs c; header \"a\"; open;")+"endpoint y at a GET \"/\" { page; cors any; cors a; script a; needs c; header \"a\"; redirect x; }", also("x", "y")...)
	mustFail(t, in("a", "page; open;")+"endpoint y at a GET \"/\" { page; redirect x; @page; }", api.ErrTwice)
}

func TestHeaders(t *testing.T) {
	mustBe(t, in("a", "header \"X-A\"; header \"X-B\"; header \"x\"; header \"!#$%&'*+-.^_|~`\"; header \""+strings.Repeat("h", 40)+"\";"), also("x")...)
	for _, x := range [][2]string{{"X-A", "X-A"}, {"X-A", "x-a"}, {"x-a", "X-a"}, {"aZ", "Az"}} {
		mustFail(t, in("a", "header \""+x[0]+"\"; header @\""+x[1]+"\";"), api.ErrTwice)
		mustFail(t, in("a", "header \""+x[0]+"\"; header \"b\"; header @\""+x[1]+"\"; header \"b\";"), api.ErrTwice)
	}
	for _, text := range []string{"", " ", "x a", " x", "x ", "x,y", "x:y", "x=y", "(x)", "x/y", strings.Repeat("h", 41)} {
		mustFail(t, in("a", "header @\""+text+"\";"), api.ErrForm)
		mustFail(t, in("a", "header @\""+text+"\"; header \""+text+"\";"), api.ErrForm)
	}
	for _, text := range []string{"", " ", ",", " , ,", "x", "X-A,x-a", "a, b ,c,", ",a", "a,,b", strings.Repeat("h", 40)} {
		mustBe(t, in("a", "allow \""+text+"\";"), also("x")...)
	}
	for _, text := range []string{"a b", "a;b", "a, b c", "a:b", "a,(b)", "/", strings.Repeat("h", 41)} {
		mustFail(t, in("a", "allow @\""+text+"\";"), api.ErrForm)
		mustFail(t, in("a", "allow @\""+text+"\"; allow \"\";"), api.ErrForm)
	}
	for _, text := range []string{"GET", " GET", "GET ", "   PUT   ", "GET,HEAD,POST,PUT,DELETE,PATCH", "PUT , GET", "GET,GET", "PUT,PUT , PUT"} {
		mustBe(t, in("a", "methods \""+text+"\";"), also("x")...)
	}
	for _, text := range []string{"", " ", ",", "GET,", ",GET", "GET,,PUT", "GET, ,PUT", "get", "Get", "GET PUT", "GET;PUT", "OPTIONS", "GET,OPTIONS", "X", "*", "G ET", "GET,put"} {
		mustFail(t, in("a", "methods @\""+text+"\";"), api.ErrForm)
		mustFail(t, in("a", "methods @\""+text+"\"; methods \"GET\";"), api.ErrForm)
	}
	for _, text := range []string{"", " ", "script-src", "nonsense 'x", ";;;"} {
		mustBe(t, in("a", "csp \""+text+"\";"), also("x")...)
	}
}

func TestSets(t *testing.T) {
	mustBe(t, in("a", "sets c; sets d;"), also("x")...)
	mustBe(t, in("b", "sets d;"), also("x")...)
	mustBe(t, in("h", "sets k;"), also("x")...)
	mustFail(t, in("b", "sets @c;"), api.ErrKind)
	mustFail(t, in("b", "sets d; sets @c; sets d;"), api.ErrKind)
	mustFail(t, in("h", "sets @c;"), api.ErrKind)
	mustFail(t, in("h", "sets @d; sets d;"), api.ErrKind)
	mustFail(t, in("a", "sets @k;"), api.ErrKind)
	mustBe(t, in("b", "needs c; needs k;"), also("x")...)
	// Another host of one site, and one to which the cookie would go, are other hosts; ports do not count.
	mustFail(t, names+"origin y \"https://y.a.test\"; cookie w at y \"Domain=a.test\"; endpoint x at a GET \"/\" { sets @w; }", api.ErrKind)
	mustFail(t, names+"origin y \"https://y.a.test\"; cookie w at a \"Domain=a.test\"; endpoint x at y GET \"/\" { sets @w; }", api.ErrKind)
	mustBe(t, names+"origin y \"https://a.test:99\"; endpoint x at y GET \"/\" { sets c; sets d; }", also("y", "x")...)
	mustFail(t, names+"origin y \"http://a.test:443\"; endpoint x at y GET \"/\" { sets d; sets @c; }", api.ErrKind)
	// A Secure cookie of an http origin is set by https alone.
	mustBe(t, names+"cookie w at b \"Secure\"; endpoint x at a GET \"/\" { sets w; }", also("w", "x")...)
	mustFail(t, names+"cookie w at b \"Secure\"; endpoint x at b GET \"/\" { sets @w; }", api.ErrKind)
	mustFail(t, "endpoint x at a GET \"/\" { sets @w; } cookie w at b \"\"; origin a \"https://a.test\"; origin b \"https://b.test\";", api.ErrKind)
}

func TestSetsWhereATextIsWrong(t *testing.T) {
	const x = "endpoint x at a GET \"/\" { sets w; } "
	const oa, ob = "origin a \"http://a.test\"; ", "origin b \"http://b.test\"; "
	mustFail(t, x+"cookie w at b @\"nothing\"; "+oa+ob, api.ErrForm)
	mustFail(t, x+"cookie w at b @\"Domain=a.test\"; "+oa+ob, api.ErrForm)
	mustFail(t, x+"cookie w at a @\"Secure; Secure\"; "+oa+ob, api.ErrForm)
	mustFail(t, x+"cookie w at @nobody \"\"; "+oa+ob, api.ErrName)
	mustFail(t, x+"cookie w at @w \"\"; "+oa+ob, api.ErrKind)
	mustFail(t, x+"cookie w at @evil \"\"; "+oa+ob, api.ErrName)
	mustFail(t, x+"cookie w at b \"\"; "+oa+"origin b @\"http://B.test\"; ", api.ErrForm)
	mustFail(t, x+"cookie w at b \"Secure\"; "+ob+"origin a @\"\"; ", api.ErrForm)
	mustFail(t, x+"cookie w at a \"Secure\"; origin a @\"http://\"; ", api.ErrForm)
	mustFail(t, x+"cookie w at b \"nothing\"; origin b @\"\"; "+oa, api.ErrForm)
	mustFail(t, "endpoint x at @nobody GET \"/\" { sets w; } cookie w at b \"\"; "+ob, api.ErrName)
	mustFail(t, "endpoint x at @s GET \"/\" { sets w; } cookie w at b \"\"; secret s; "+ob, api.ErrKind)
	// Of two items of one name the first one is set.
	mustFail(t, "endpoint x at a GET \"/\" { sets @w; } cookie w at b \"\"; cookie w at a \"\"; "+oa+ob, api.ErrKind)
	mustFail(t, x+"cookie w at a \"\"; cookie @w at b \"\"; "+oa+ob, api.ErrTwice)
	mustFail(t, "endpoint x at a GET \"/\" { sets @w; } cookie w at b \"\"; "+oa+ob+oa, api.ErrKind)
	// An origin of the stranger's site is read, though it may not be.
	mustFail(t, "endpoint x at a GET \"/\" { sets @w; } cookie w at b \"\"; "+oa+"origin b \"https://evil.test\"; ", api.ErrKind)
	mustFail(t, x+"cookie w at a \"\"; origin a @\"https://evil.test\"; ", api.ErrForm)
}

func TestGives(t *testing.T) {
	mustFail(t, in("a", "@gives s;"), api.ErrKind)
	mustFail(t, in("a", "own; sets d; @gives s; gives s;"), api.ErrKind)
	mustFail(t, in("a", "@gives nobody;"), api.ErrKind)
	mustFail(t, in("a", "@gives evil;"), api.ErrKind)
	mustFail(t, in("a", "@gives a;"), api.ErrKind)
	mustBe(t, in("a", "needs d; gives s; gives z;"), also("x")...)
	mustBe(t, in("a", "gives s; gives z; needs k;"), also("x")...)
	// What is needed need not be right, but to be there.
	mustFail(t, in("a", "gives s; needs @nobody;"), api.ErrName)
	mustFail(t, in("a", "gives s; needs @a;"), api.ErrKind)
	mustFail(t, in("a", "gives @nobody; needs nobody;"), api.ErrName)
	// Of this endpoint, of no other one.
	mustFail(t, in("a", "needs d;")+"endpoint y at a GET \"/\" { @gives s; } endpoint w at a GET \"/\" { needs d; }", api.ErrKind)
}

func TestTheFirstOneIsTold(t *testing.T) {
	for _, x := range []struct {
		s    string
		code api.Errno
	}{
		{"secret @evil; secret evil; secret s; secret s;", api.ErrTwice},
		{"origin @evil \"\"; network; network;", api.ErrTwice},
		{"cookie @evil at evil \"nothing\";", api.ErrTwice},
		{"cookie c at @evil \"nothing\"; cookie c at evil \"\";", api.ErrName},
		{"origin a @\"\"; origin a \"\"; secret a;", api.ErrForm},
		{names + "endpoint @a at nobody X \"\" { page; page; }", api.ErrTwice},
		{names + "endpoint x at @nobody X \"\" { page; page; }", api.ErrName},
		{names + "endpoint x at @s X \"\" { page; page; }", api.ErrKind},
		{names + "endpoint x at a @X \"\" { page; page; }", api.ErrForm},
		{names + "endpoint x at a GET @\"\" { page; page; }", api.ErrForm},
		{names + "endpoint x at a GET \"/\" { page; @page; } secret a; network; network;", api.ErrTwice},
		{in("a", "redirect @nobody; redirect e;"), api.ErrName},
		{in("a", "redirect e; @redirect nobody; redirect nobody;"), api.ErrTwice},
		{in("a", "script @nobody; script nobody; page; page;"), api.ErrName},
		{in("a", "script @s; script s;"), api.ErrKind},
		{in("a", "script a; needs @a; script a;"), api.ErrKind},
		{in("h", "sets @c; sets c; gives s;"), api.ErrKind},
		{in("a", "page; @gives nobody; gives s; page;"), api.ErrKind},
		{in("a", "needs d; gives s; gives @s; needs d;"), api.ErrTwice},
		{in("a", "header \"x\"; header @\"X\"; header \"\";"), api.ErrTwice},
		{in("a", "header @\"\"; header \"x\"; header \"X\";"), api.ErrForm},
		{in("a", "methods \"GET\"; @methods \"\"; methods \"\";"), api.ErrTwice},
		{in("a", "allow \"\"; @allow \"a b\";"), api.ErrTwice},
		{"property @evil = knows evil or ran nobody;", api.ErrTwice},
		{"secret s; property p = (not knows s or (ran @nobody and knows p)) or stolen s;", api.ErrName},
		{"secret s; property p = knows s and stolen @s or ran nobody;", api.ErrKind},
		{"secret s; property p = (knows @x or knows y) and knows z;", api.ErrName},
		{"secret s; property p = knows s and (ran @p); secret s;", api.ErrKind},
		{"network; property p = knows @p; network;", api.ErrKind},
		{"network; @network; property p = knows p;", api.ErrTwice},
	} {
		mustFail(t, x.s, x.code)
	}
}
