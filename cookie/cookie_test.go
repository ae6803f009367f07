package cookie

import (
	"maps"
	"math"
	"regexp"
	"slices"
	"strings"
	"sync"
	"testing"
	"unsafe"

	"moat/api"
)

// hostForm and pathForm say the chapters' words in another way than the program does.
var (
	hostForm = regexp.MustCompile(`^(?:[a-z0-9]|[a-z0-9][a-z0-9-]{0,18}[a-z0-9])(?:\.(?:[a-z0-9]|[a-z0-9][a-z0-9-]{0,18}[a-z0-9]))*\z`)
	pathForm = regexp.MustCompile(`^/[a-z0-9/_.-]{0,59}\z`)
)

func isHost(s string) bool { return len(s) <= api.MaxHost && hostForm.MatchString(s) }

// plainLower lowers capitals in another way than the program does.
func plainLower(s string) string {
	for c := 'A'; c <= 'Z'; c++ {
		s = strings.ReplaceAll(s, string(c), string(c+32))
	}
	return s
}

// plainPairs lists what each attribute is told to be; one that is told twice tells false.
func plainPairs(s string) (map[string]string, bool) {
	told := map[string]string{}
	for _, text := range strings.Split(s, ";") {
		text = strings.Trim(text, "\t ")
		if text == "" {
			continue
		}
		halves := append(strings.SplitN(text, "=", 2), "")
		key := plainLower(strings.Trim(halves[0], "\t "))
		if _, there := told[key]; there {
			return nil, false
		}
		told[key] = strings.Trim(halves[1], "\t ")
	}
	return told, true
}

// plainRead is Read, said in another way.
func plainRead(host string, s string) (api.Cookie, bool) {
	told, ok := plainPairs(s)
	if !ok || !isHost(host) {
		return api.Cookie{}, false
	}
	for key, value := range told {
		may := map[string]bool{
			"domain":   isHost(value) && strings.Contains(value, ".") && strings.HasSuffix("."+host, "."+value),
			"path":     pathForm.MatchString(value),
			"secure":   value == "",
			"httponly": value == "",
			"samesite": slices.Contains([]string{"none", "lax", "strict"}, plainLower(value)),
		}
		if !may[key] {
			return api.Cookie{}, false
		}
	}
	_, secure := told["secure"]
	_, httpOnly := told["httponly"]
	same := map[string]int{"none": 1, "": 2, "lax": 2, "strict": 3}[plainLower(told["samesite"])]
	if same == 1 && !secure {
		return api.Cookie{}, false
	}
	path := told["path"]
	if path == "" {
		path = "/"
	}
	return api.Cookie{Domain: told["domain"], Path: path, Secure: secure, HTTPOnly: httpOnly, Same: same}, true
}

// checkRead holds Read, and Text of what it read, against what is told in another way.
func checkRead(t *testing.T, host string, s string) {
	t.Helper()
	want, may := plainRead(host, s)
	c, ok := Read(host, s)
	if c != want || ok != may {
		t.Errorf("P7.1: Read(%.80q, %.200q): %+v, %v; not %+v, %v", host, s, c, ok, want, may)
	}
	if !ok {
		return
	}
	if again, is := Read(host, Text(c)); again != c || !is {
		t.Errorf("P7.1: Read(%.80q, %q): %+v, %v; not as it was, %+v", host, Text(c), again, is, c)
	}
}

// mustRead tells of a text that is read as something else.
func mustRead(t *testing.T, host string, s string, want api.Cookie) {
	t.Helper()
	if c, ok := Read(host, s); c != want || !ok {
		t.Errorf("P7.1: Read(%q, %.200q): %+v, %v; not %+v", host, s, c, ok, want)
	}
	checkRead(t, host, s)
}

// mustNotRead tells of a text that is read, or of something beside the false.
func mustNotRead(t *testing.T, host string, s string) {
	t.Helper()
	if c, ok := Read(host, s); ok || c != (api.Cookie{}) {
		t.Errorf("P7.1: Read(%.80q, %.200q): %+v, %v", host, s, c, ok)
	}
	checkRead(t, host, s)
}

// plain is what is read of no attributes.
func plain() api.Cookie { return api.Cookie{Path: "/", Same: api.Lax} }

// with is the plain cookie with a change.
func with(change func(*api.Cookie)) api.Cookie {
	c := plain()
	change(&c)
	return c
}

// attributes are one of each kind, that may all stand together.
func attributes() []string {
	return []string{"domain=a.test", "path=/b", "secure", "httponly", "samesite=none"}
}

// orders lists a list in each of its orders.
func orders(list []string) [][]string {
	if len(list) == 0 {
		return [][]string{nil}
	}
	var found [][]string
	for i, first := range list {
		rest := slices.Delete(slices.Clone(list), i, i+1)
		for _, order := range orders(rest) {
			found = append(found, append([]string{first}, order...))
		}
	}
	return found
}

// spelled lists a text in letters of several sizes.
func spelled(s string) []string {
	upper := strings.ToUpper(s)
	even, odd := []byte(s), []byte(s)
	for i := range len(s) {
		if i%2 == 0 {
			even[i] = upper[i]
		} else {
			odd[i] = upper[i]
		}
	}
	return []string{s, upper, upper[:1] + s[1:], string(even), string(odd)}
}

func TestReadNoAttributes(t *testing.T) {
	for _, host := range []string{"a", "a.test", "x.a.test", "1.2.3.4", strings.Repeat("x", 20), strings.Repeat("a.", 29) + "aa"} {
		for _, s := range []string{"", " ", "\t", ";", ";;;", " ; \t;", strings.Repeat(" ;\t", 1000)} {
			mustRead(t, host, s, plain())
		}
	}
}

func TestReadOneAttribute(t *testing.T) {
	mustRead(t, "x.a.test", "domain=a.test", with(func(c *api.Cookie) { c.Domain = "a.test" }))
	mustRead(t, "x.a.test", "path=/b", with(func(c *api.Cookie) { c.Path = "/b" }))
	mustRead(t, "x.a.test", "secure", with(func(c *api.Cookie) { c.Secure = true }))
	mustRead(t, "x.a.test", "httponly", with(func(c *api.Cookie) { c.HTTPOnly = true }))
	mustRead(t, "x.a.test", "samesite=lax", with(func(c *api.Cookie) { c.Same = api.Lax }))
	mustRead(t, "x.a.test", "samesite=strict", with(func(c *api.Cookie) { c.Same = api.Strict }))
	mustRead(t, "x.a.test", "HttpOnly", with(func(c *api.Cookie) { c.HTTPOnly = true }))
	mustRead(t, "x.a.test", "SameSite=Strict", with(func(c *api.Cookie) { c.Same = api.Strict }))
	mustNotRead(t, "x.a.test", "samesite=none")
}

func TestReadAllAttributes(t *testing.T) {
	want := api.Cookie{Domain: "a.test", Path: "/b", Secure: true, HTTPOnly: true, Same: api.None}
	for _, order := range orders(attributes()) {
		mustRead(t, "x.a.test", strings.Join(order, ";"), want)
		mustRead(t, "x.a.test", " ;"+strings.Join(order, "; ")+";", want)
		for i := range order {
			checkRead(t, "x.a.test", strings.Join(order[i:], ";"))
			checkRead(t, "x.a.test", strings.Join(order[:i], ";"))
			checkRead(t, "x.a.test", strings.Join(slices.Insert(slices.Clone(order), i, "x"), ";"))
			checkRead(t, "x.a.test", strings.Join(slices.Insert(slices.Clone(order), i, " "), ";"))
		}
	}
}

func TestReadSizesOfLetters(t *testing.T) {
	for _, x := range []struct {
		key, value string
		want       api.Cookie
	}{
		{"domain", "a.test", with(func(c *api.Cookie) { c.Domain = "a.test" })},
		{"path", "/b", with(func(c *api.Cookie) { c.Path = "/b" })},
		{"secure", "", with(func(c *api.Cookie) { c.Secure = true })},
		{"httponly", "", with(func(c *api.Cookie) { c.HTTPOnly = true })},
		{"samesite", "strict", with(func(c *api.Cookie) { c.Same = api.Strict })},
	} {
		for _, key := range spelled(x.key) {
			mustRead(t, "a.test", key+"="+x.value, x.want)
		}
	}
	for _, value := range []string{"A.test", "a.TEST", "A.TEST"} {
		mustNotRead(t, "a.test", "domain="+value)
		mustNotRead(t, value, "")
	}
	mustNotRead(t, "a.test", "path=/B")
}

func TestReadBlanks(t *testing.T) {
	want := api.Cookie{Domain: "a.test", Path: "/b", Secure: true, HTTPOnly: true, Same: api.Strict}
	for _, space := range []string{"", " ", "\t", " \t ", strings.Repeat("\t ", 100)} {
		text := strings.ReplaceAll("_domain_=_a.test_;_path_=_/b_;_secure_;_httponly_=_;_samesite_=_strict_;_", "_", space)
		mustRead(t, "a.test", text, want)
	}
	for _, s := range []string{"do main=a.test", "domain=a. test", "domain=a.test x", "path=/ b", "path=/\tb", "path=/ /b", "sec ure", "secure x", "http only", "samesite=str ict", "same\tsite=strict", "samesite=lax strict", "secure httponly", "secure,httponly"} {
		mustNotRead(t, "a.test", s)
	}
	for _, space := range []string{"\n", "\r", "\v", "\f", "\u00a0", "\u2003", "\x00", "\x85"} {
		for _, attribute := range attributes()[:4] {
			key, value, _ := strings.Cut(attribute, "=")
			for _, s := range []string{space + attribute, attribute + space, key + space + "=" + value, key + "=" + space + value, attribute + ";" + space} {
				mustNotRead(t, "a.test", s)
			}
		}
		mustNotRead(t, "a.test", "samesite=strict"+space)
		mustNotRead(t, "a.test", "samesite="+space+"strict")
	}
}

func TestReadDomain(t *testing.T) {
	long := strings.Repeat("a.", 29) + "aa"
	for _, x := range []struct {
		host, domain string
		want         bool
	}{
		{"a.test", "a.test", true}, {"x.a.test", "x.a.test", true}, {"w.x.a.test", "w.x.a.test", true}, {long, long, true},
		{"x.a.test", "a.test", true}, {"w.x.a.test", "a.test", true}, {"w.x.a.test", "x.a.test", true}, {"a.a.a", "a.a", true}, {"1.2.3.4", "3.4", true}, {long, "a.aa", true},
		{"a.test", "x.a.test", false}, {"x.a.test", "w.x.a.test", false}, {"test", "a.test", false}, {"a.a", "a.a.a", false},
		{"xa.test", "a.test", false}, {"x-a.test", "a.test", false}, {"w.xa.test", "a.test", false}, {"a.test", "x-a.test", false},
		{"a.test", "test", false}, {"x.a.test", "test", false}, {"a", "a", false}, {"test", "test", false}, {"a.a", "a", false}, {"a.test", "a", false}, {strings.Repeat("x", 20), strings.Repeat("x", 20), false},
		{"a.test", "b.test", false}, {"a.test", "a.other", false}, {"x.a.test", "x.b.test", false}, {"x.a.test", "y.a.test", false}, {"x.a.test", "x.a", false}, {"x.a.test", "x.test", false}, {"a.test", "test.a", false},
		{"a.test", "", false}, {"a.test", ".", false}, {"a.test", ".a.test", false}, {"x.a.test", ".a.test", false}, {"a.test", ".test", false}, {"a.test", "a.test.", false}, {"a.test", "a..test", false}, {"a.test", "*.a.test", false}, {"x.a.test", "*.test", false}, {"a.test", "a.test:443", false}, {"a.test", "https://a.test", false}, {"a.test", "a.test/", false}, {"a.test", "'a.test'", false}, {"a.test", "\"a.test\"", false}, {"a.test", "a.test,b.test", false}, {"a.test", "=a.test", false}, {"a.test", "a.test=", false}, {long + "a", long + "a", false}, {"-a.test", "-a.test", false}, {"a_b.test", "a_b.test", false},
	} {
		if x.want {
			mustRead(t, x.host, "domain="+x.domain, with(func(c *api.Cookie) { c.Domain = x.domain }))
			mustRead(t, x.host, "Secure; Domain="+x.domain+"; Path=/", with(func(c *api.Cookie) { c.Domain, c.Secure = x.domain, true }))
		} else {
			mustNotRead(t, x.host, "domain="+x.domain)
			mustNotRead(t, x.host, "Secure; Domain="+x.domain+"; Path=/")
		}
	}
	mustNotRead(t, "a.test", "domain")
}

func TestReadDomainAllPairs(t *testing.T) {
	hosts := []string{"a", "b", "test", "a.b", "b.a", "a.test", "b.test", "x.a.test", "xa.test", "y.x.a.test", "a.a", "a.a.a", "a.a.a.a", "A.test", "", ".", "a.", ".a"}
	for _, host := range hosts {
		for _, domain := range hosts {
			checkRead(t, host, "domain="+domain)
		}
	}
}

func TestReadPath(t *testing.T) {
	for _, path := range []string{"/", "//", "/b", "/b/", "/b/c", "/-_.", "/.", "/..", "/0", "/b.c-d_e", "/" + strings.Repeat("b", 59)} {
		mustRead(t, "a.test", "path="+path, with(func(c *api.Cookie) { c.Path = path }))
	}
	for _, path := range []string{"", "b", "b/", "./", "/B", "/b c", "/b,", "/b=c", "=/b", "/=", "/b?c", "/%62", "/~", "/*", "'/'", "\"/\"", "/\u00e9", "/\xff", "/\x00", "/b\\", "https://a.test/", "/" + strings.Repeat("b", 60), strings.Repeat("/", 1<<16)} {
		mustNotRead(t, "a.test", "path="+path)
		mustNotRead(t, "a.test", "Secure; Path="+path+"; HttpOnly")
	}
	for _, s := range []string{"path", "path=", "path= ", "path =\t", "/", "=/", "/b", "path:/", "path /"} {
		mustNotRead(t, "a.test", s)
	}
	mustRead(t, "a.test", "secure", with(func(c *api.Cookie) { c.Secure = true }))
}

func TestReadSecureAndHTTPOnly(t *testing.T) {
	for _, x := range []struct {
		key  string
		want api.Cookie
	}{
		{"secure", with(func(c *api.Cookie) { c.Secure = true })},
		{"httponly", with(func(c *api.Cookie) { c.HTTPOnly = true })},
	} {
		for _, behind := range []string{"", "=", " = ", "=\t", "\t="} {
			mustRead(t, "a.test", x.key+behind, x.want)
		}
		for _, value := range []string{"1", "0", "true", "false", "=", "==", "x", x.key, "''", "\"\"", "\x00", "\xff", "\n", "- "} {
			mustNotRead(t, "a.test", x.key+"="+value)
		}
		for _, s := range []string{x.key + "s", "x" + x.key, x.key[1:], x.key[:len(x.key)-1], x.key + ":", x.key + "\x00"} {
			mustNotRead(t, "a.test", s)
		}
	}
	mustRead(t, "a.test", "secure;httponly", with(func(c *api.Cookie) { c.Secure, c.HTTPOnly = true, true }))
}

func TestReadSameSite(t *testing.T) {
	for value, same := range map[string]int{"none": api.None, "lax": api.Lax, "strict": api.Strict} {
		for _, text := range spelled(value) {
			mustRead(t, "a.test", "secure;samesite="+text, with(func(c *api.Cookie) { c.Secure, c.Same = true, same }))
			mustRead(t, "a.test", "SameSite = "+text+" ; Secure", with(func(c *api.Cookie) { c.Secure, c.Same = true, same }))
			if same != api.None {
				mustRead(t, "a.test", "SameSite="+text, with(func(c *api.Cookie) { c.Same = same }))
			}
		}
	}
	for _, value := range []string{"", " ", "loose", "default", "0", "1", "2", "3", "on", "lax,strict", "=lax", "lax=", "'lax'", "\"lax\"", "laxx", "la", "xlax", "non", "nonee", "stric", "stricts", "\u017ftrict", "stri\u0441t", "lax\x00", "lax\xff", "\x00", "\xff", strings.Repeat("lax", 1<<14)} {
		for _, s := range []string{"samesite=" + value, "secure;samesite=" + value, "SameSite=" + value + "; Secure"} {
			mustNotRead(t, "a.test", s)
		}
	}
	for _, s := range []string{"samesite", "SameSite", "samesite;secure", "lax", "strict", "none;secure", "same-site=lax", "=lax"} {
		mustNotRead(t, "a.test", s)
	}
}

func TestReadNoneAsksForSecure(t *testing.T) {
	none := with(func(c *api.Cookie) { c.Secure, c.Same = true, api.None })
	for _, text := range spelled("none") {
		mustRead(t, "a.test", "secure;samesite="+text, none)
		mustRead(t, "a.test", "samesite="+text+";secure", none)
		mustNotRead(t, "a.test", "samesite="+text)
		mustNotRead(t, "a.test", "samesite="+text+";httponly;path=/;domain=a.test")
		mustNotRead(t, "a.test", "httponly;samesite="+text)
		mustNotRead(t, "a.test", "samesite="+text+";secure=1")
	}
	for _, order := range orders([]string{"samesite=none", "httponly", "path=/b"}) {
		mustNotRead(t, "a.test", strings.Join(order, ";"))
	}
}

func TestReadTwice(t *testing.T) {
	values := map[string][]string{
		"domain": {"x.a.test", "a.test"}, "path": {"/", "/b"}, "secure": {"", "1"}, "httponly": {"", "1"}, "samesite": {"strict", "lax", "none", "Strict"},
	}
	for key, list := range values {
		for _, one := range list {
			for _, other := range list {
				for _, name := range spelled(key) {
					mustNotRead(t, "x.a.test", key+"="+one+";"+name+"="+other)
					mustNotRead(t, "x.a.test", key+"="+one+"; ; "+name+" = "+other+";")
				}
			}
			mustNotRead(t, "x.a.test", key+"="+one+";"+key)
			mustNotRead(t, "x.a.test", key+";"+key+"="+one)
		}
		for _, order := range orders(attributes()) {
			again := key + "=" + list[0]
			mustNotRead(t, "x.a.test", again+";"+strings.Join(order, ";"))
			mustNotRead(t, "x.a.test", strings.Join(order, ";")+";"+again)
			mustNotRead(t, "x.a.test", strings.Join(slices.Insert(slices.Clone(order), 3, again), ";"))
		}
	}
	for _, attribute := range attributes() {
		mustNotRead(t, "x.a.test", strings.Repeat(attribute+";", 3))
		mustNotRead(t, "x.a.test", strings.Repeat(attribute+";", 256))
		mustNotRead(t, "x.a.test", strings.Repeat(attribute+";", 257))
	}
}

func TestReadNothingElse(t *testing.T) {
	for _, s := range []string{
		"x", "x=1", "=", "==", "=x", "= ", " =", ";=;", "=;=", "a=b=c", "name=value", "n=v; Path=/", "__Host-a=b", "Max-Age=1", "Expires=Thu", "Priority=High", "Partitioned", "version=1", "comment=x", "domains=a.test", "paths=/", "securely", "http-only", "http_only", "same_site=lax", "sameparty",
		"domain.=a.test", "domain:a.test", "path:/", ",", "secure,", ",secure", "secure&httponly", "'secure'", "\"secure\"", "secure\n;", "Set-Cookie: secure", "\u017fecure", "secur\u0435", "\u212aey=x", "pat\u04bb=/",
		"\x00", "\x1f", "\x7f", "\x80", "\xff", "\xff=\xff", "\xef\xbb\xbfsecure", "secure\x00", "sec\x00ure", "\xffsecure", "secure\xff",
	} {
		mustNotRead(t, "a.test", s)
		mustNotRead(t, "a.test", "secure;"+s)
		mustNotRead(t, "a.test", s+"; httponly")
		mustNotRead(t, "a.test", "path=/ ; "+s+" ;domain=a.test")
	}
	for c := range 256 {
		b := string([]byte{byte(c)})
		for _, s := range []string{b, b + "secure", "secure" + b, "secure=" + b, "path=/" + b, "path=" + b, "path=" + b + "/", "domain=a" + b + "test", "domain=" + b + "a.test", "domain=a.test" + b, "samesite=lax" + b, "samesite=" + b + "lax", "samesite" + b + "lax", "secure" + b + "httponly"} {
			checkRead(t, "a.test", s)
		}
		checkRead(t, "a"+b+"test", "domain=a.test")
		checkRead(t, "x"+b+"a.test", "domain=a.test")
	}
}

func TestReadNoHost(t *testing.T) {
	for _, host := range []string{
		"", " ", ".", "..", ".a", "a.", "a..b", "A", "A.test", "a.Test", "-a.test", "a-.test", "a b", " a.test", "a.test ", "a_b.test", "a/b", "a.test/", "a.test:443", "https://a.test", "*", "*.a.test", "\u00e9.test", "a.\xff", "a.\x00", "\x00", "a\n",
		strings.Repeat("a", 21), strings.Repeat("a", 21) + ".test", strings.Repeat("a.", 30) + "a", strings.Repeat("a.", 1<<16) + "a",
	} {
		for _, s := range []string{"", ";", "Secure", "Path=/", "SameSite=Lax", "x", "Domain=a.test", "Domain=" + host, "Domain=" + host + ";Secure"} {
			mustNotRead(t, host, s)
		}
	}
}

func TestReadShortTexts(t *testing.T) {
	texts := []string{""}
	parts := []string{"domain", "PATH", "secure", "HttpOnly", "samesite", "=", ";", " ", "/", "a.b", "None", "strict"}
	for range 5 {
		var longer []string
		for _, s := range texts {
			checkRead(t, "a.b", s)
			for _, part := range parts {
				longer = append(longer, s+part)
			}
		}
		texts = longer
	}
}

func TestReadLongTexts(t *testing.T) {
	const many = 1 << 14
	for _, part := range []string{";", " ", "\t", "=", "a", "a;", " ;", "secure", "secure;", "=;", "path=/;", "\xff"} {
		text := strings.Repeat(part, many)
		for _, s := range []string{text, "secure;" + text, text + ";secure", "path=" + text, "samesite=" + text, "domain=" + text} {
			checkRead(t, "a.test", s)
		}
	}
}

func TestText(t *testing.T) {
	for _, x := range []struct {
		c    api.Cookie
		want string
	}{
		{plain(), "Path=/; SameSite=Lax"},
		{api.Cookie{Domain: "a.test", Path: "/b", Secure: true, HTTPOnly: true, Same: api.None}, "Domain=a.test; Path=/b; Secure; HttpOnly; SameSite=None"},
		{with(func(c *api.Cookie) { c.Domain = "a.test" }), "Domain=a.test; Path=/; SameSite=Lax"},
		{with(func(c *api.Cookie) { c.Secure = true }), "Path=/; Secure; SameSite=Lax"},
		{with(func(c *api.Cookie) { c.HTTPOnly = true }), "Path=/; HttpOnly; SameSite=Lax"},
		{with(func(c *api.Cookie) { c.Same = api.None }), "Path=/; SameSite=None"},
		{with(func(c *api.Cookie) { c.Same = api.Strict }), "Path=/; SameSite=Strict"},
		{api.Cookie{}, "Path="}, {api.Cookie{Path: "/"}, "Path=/"}, {api.Cookie{Path: "x y"}, "Path=x y"}, {api.Cookie{Path: "\xff\x00"}, "Path=\xff\x00"}, {api.Cookie{Domain: " "}, "Domain= ; Path="}, {api.Cookie{Domain: "A;B", Path: ";", Same: api.Lax}, "Domain=A;B; Path=;; SameSite=Lax"},
		{api.Cookie{Name: "n", Origin: 5, Path: "/", Secure: true}, "Path=/; Secure"}, {api.Cookie{Name: "n", Origin: -1}, "Path="},
		{api.Cookie{Secure: true, HTTPOnly: true}, "Path=; Secure; HttpOnly"}, {api.Cookie{HTTPOnly: true, Same: 4}, "Path=; HttpOnly"},
	} {
		if got := Text(x.c); got != x.want {
			t.Errorf("P7.1: Text(%+v): %q", x.c, got)
		}
	}
	for _, same := range []int{0, 4, 5, -1, -2, -3, 255, 257, 258, 259, 1 << 32, 1<<32 + 1, math.MaxInt, math.MinInt} {
		if got := Text(api.Cookie{Path: "/", Same: same}); got != "Path=/" {
			t.Errorf("P7.1: Text of Same %d: %q", same, got)
		}
	}
}

func TestTextIsReadBack(t *testing.T) {
	names := map[int]string{api.None: "; SameSite=None", api.Lax: "; SameSite=Lax", api.Strict: "; SameSite=Strict"}
	for _, domain := range []string{"", "a.test", "x.a.test"} {
		for _, path := range []string{"/", "/b", "/b/c.d-e_f/"} {
			for n := range 4 {
				for same := range maps.Keys(names) {
					c := api.Cookie{Domain: domain, Path: path, Secure: n&1 != 0, HTTPOnly: n&2 != 0, Same: same}
					s := Text(c)
					if !strings.HasSuffix(s, names[same]) || strings.Contains(s, "Domain") != (domain != "") || strings.Contains(s, "; Secure") != c.Secure || strings.Contains(s, "; HttpOnly") != c.HTTPOnly {
						t.Errorf("P7.1: Text(%+v): %q", c, s)
					}
					if same == api.None && !c.Secure {
						mustNotRead(t, "x.a.test", s)
					} else {
						mustRead(t, "x.a.test", s, c)
					}
				}
			}
		}
	}
}

// overlaps tells whether a piece lies within the memory of s.
func overlaps(s string, piece string) bool {
	if s == "" || piece == "" {
		return false
	}
	from, to := uintptr(unsafe.Pointer(unsafe.StringData(s))), uintptr(unsafe.Pointer(unsafe.StringData(piece)))
	return to < from+uintptr(len(s)) && from < to+uintptr(len(piece))
}

func TestAnswersAreNew(t *testing.T) {
	host, s := strings.Clone("a.test"), strings.Clone("Domain=a.test; Path=/b")
	first, _ := Read(host, s)
	second, _ := Read(host, s)
	for _, piece := range []string{first.Domain, first.Path} {
		for _, other := range []string{host, s, second.Domain, second.Path} {
			if overlaps(other, piece) {
				t.Errorf("R4: %q of Read shares memory with %q", piece, other)
			}
		}
	}
	if text := Text(first); overlaps(text, first.Domain) || overlaps(text, first.Path) || overlaps(text, Text(first)) {
		t.Errorf("R4: %q of Text shares memory", text)
	}
}

func TestFromSeveralGoroutines(t *testing.T) {
	want := api.Cookie{Domain: "a.test", Path: "/b", Secure: true, HTTPOnly: true, Same: api.None}
	var group sync.WaitGroup
	for range 8 {
		group.Go(func() {
			for range 200 {
				c, ok := Read("x.a.test", "Domain=a.test;Path=/b;Secure;HttpOnly;SameSite=None")
				if _, other := Read("x.a.test", "Secure;Secure"); !ok || other || c != want || Text(c) != "Domain=a.test; Path=/b; Secure; HttpOnly; SameSite=None" {
					t.Error("R5: another answer from several goroutines")
				}
			}
		})
	}
	group.Wait()
}

func FuzzRead(f *testing.F) {
	for _, order := range orders(attributes())[:10] {
		f.Add("x.a.test", strings.Join(order, "; "))
	}
	for _, s := range []string{"", ";", "=", "Secure=", "SameSite=Strict", "Domain=a.test;domain=a.test", "Path=/ \xff"} {
		f.Add("a.test", s)
		f.Add("", s)
	}
	f.Fuzz(func(t *testing.T, host string, s string) { checkRead(t, host, s) })
}
