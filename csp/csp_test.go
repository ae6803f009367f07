package csp

import (
	"math"
	"regexp"
	"slices"
	"strconv"
	"strings"
	"sync"
	"testing"
	"unsafe"

	"moat/api"
	"moat/url"
)

// at reads an origin; a text that is none is a fault of the test.
func at(t testing.TB, s string) api.Origin {
	t.Helper()
	o, ok := url.Read(s)
	if !ok {
		t.Fatalf("%q is no origin", s)
	}
	return o
}

// origin makes one of parts that may be wrong.
func origin(scheme string, host string, port int) api.Origin {
	return api.Origin{Scheme: scheme, Host: host, Port: port}
}

// hostForm and sourceForm say the chapter's words in another way than the program does.
var (
	hostForm   = regexp.MustCompile(`^(?:[a-z0-9]|[a-z0-9][a-z0-9-]{0,18}[a-z0-9])(?:\.(?:[a-z0-9]|[a-z0-9][a-z0-9-]{0,18}[a-z0-9]))*\z`)
	sourceForm = regexp.MustCompile(`^(?:(http|https)://)?(\*\.)?([a-z0-9.-]+)(?::(\*|[1-9][0-9]{0,4}))?\z`)
)

func isHost(s string) bool { return len(s) <= api.MaxHost && hostForm.MatchString(s) }

// plainLower lowers capitals in another way than the program does.
func plainLower(s string) string {
	for c := 'A'; c <= 'Z'; c++ {
		s = strings.ReplaceAll(s, string(c), string(c+32))
	}
	return s
}

// plainMatch is Match, said in another way.
func plainMatch(source string, self api.Origin, o api.Origin) bool {
	source = plainLower(source)
	if source == "*" {
		return true
	}
	if source == "'self'" {
		return o.Scheme == self.Scheme && o.Host == self.Host && o.Port == self.Port
	}
	if source == "http:" || source == "https:" {
		return o.Scheme == strings.TrimSuffix(source, ":")
	}
	parts := sourceForm.FindStringSubmatch(source)
	if parts == nil || !isHost(parts[3]) {
		return false
	}
	schemes, host, ports := []string{parts[1]}, o.Host == parts[3], []string{parts[4]}
	if parts[1] == "" {
		schemes = []string{self.Scheme, "https"}
	}
	if parts[2] != "" {
		host = isHost(o.Host) && strings.HasSuffix(o.Host, "."+parts[3])
	}
	switch parts[4] {
	case "*":
		ports = []string{strconv.Itoa(o.Port)}
	case "":
		own := map[string]int{"http": 80, "https": 443}
		ports = []string{strconv.Itoa(own[o.Scheme])}
	default:
		if n, _ := strconv.Atoi(parts[4]); n > 65535 {
			return false
		}
	}
	return slices.Contains(schemes, o.Scheme) && host && slices.Contains(ports, strconv.Itoa(o.Port))
}

// plainSources is Sources, said in another way.
func plainSources(policy string) ([]string, bool) {
	first := map[string][]string{}
	for _, text := range strings.Split(plainLower(policy), ";") {
		var words []string
		for _, word := range strings.Split(strings.ReplaceAll(text, "\t", " "), " ") {
			if word != "" {
				words = append(words, word)
			}
		}
		if len(words) == 0 {
			continue
		}
		if _, there := first[words[0]]; !there {
			first[words[0]] = words[1:]
		}
	}
	for _, name := range []string{"script-src", "default-src"} {
		if words, there := first[name]; there {
			return words, true
		}
	}
	return nil, false
}

// checkPolicy holds the three calls on policies against what is told in another way.
func checkPolicy(t *testing.T, policy string, self api.Origin, o api.Origin) {
	t.Helper()
	want, there := plainSources(policy)
	got, ok := Sources(policy)
	if ok != there || !slices.Equal(got, want) || !ok && got != nil {
		t.Errorf("P6.1: Sources(%.200q): %.200q, %v", policy, got, ok)
	}
	lets := !there || slices.ContainsFunc(want, func(s string) bool { return plainMatch(s, self, o) })
	if got := Lets(policy, self, o); got != lets {
		t.Errorf("P6.1: Lets(%.200q, %#v, %#v): %v", policy, self, o, got)
	}
	if got, want := Inline(policy), !there || slices.Contains(want, "'unsafe-inline'"); got != want {
		t.Errorf("P6.1: Inline(%.200q): %v", policy, got)
	}
}

// spelled lists a text in letters of several sizes.
func spelled(s string) []string {
	b := []byte(s)
	for i := 0; i < len(b); i += 2 {
		b[i] = strings.ToUpper(s)[i]
	}
	return []string{s, strings.ToUpper(s), string(b)}
}

// origins are such as may be, and such as may not.
func origins() []api.Origin {
	return []api.Origin{
		origin("https", "a.test", 443), origin("http", "a.test", 80), origin("https", "a.test", 80), origin("http", "a.test", 443), origin("https", "a.test", 8443), origin("http", "a.test", 9),
		origin("https", "x.a.test", 443), origin("http", "x.a.test", 80), origin("https", "x.y.a.test", 443), origin("https", "xa.test", 443), origin("https", "x-a.test", 9), origin("https", "a.test.x", 443), origin("https", "test", 443), origin("http", "b", 80),
		{}, origin("", "a.test", 0), origin("", "a.test", 443), origin("", "x.a.test", 0), origin("https", "", 443), origin("http", "", 0), origin("https", "a.test", 0), origin("ftp", "a.test", 0), origin("ftp", "a.test", 21), origin("ftp", "a.test", 443),
		origin("HTTPS", "a.test", 443), origin("https:", "a.test", 443), origin("https", "A.TEST", 443), origin("https", "*.a.test", 443), origin("https", "x..a.test", 443), origin("https", ".a.test", 443), origin("https", "a.test:9", 9), origin("https", "'a.test'", 443), origin("https", "a.test/", 443),
		origin("https", "a.test", -1), origin("https", "a.test", math.MaxInt), origin("https", "a.test", math.MinInt), origin("https", "a.test", 65535), origin("https", "a.test", 65536), origin("https", "a.test\x00", 443), origin("\xff", "\xff", 443), origin("http\x00", "a.test", 80),
	}
}

// kinds are sources of each kind.
func kinds() []string {
	return []string{
		"'none'", "'self'", "'unsafe-inline'", "*", "http:", "https:", "a.test", "test", "*.a.test", "*.test", "http://a.test", "https://a.test", "http://*.a.test", "https://*.a.test",
		"a.test:443", "a.test:80", "a.test:8443", "a.test:9", "a.test:1", "a.test:65535", "a.test:*", "*.a.test:443", "*.a.test:*", "http://a.test:9", "http://a.test:*", "https://*.a.test:*", "https://a.test:80", "http:80", "https:*", "b",
	}
}

// noSources are texts that are none, each for another reason.
func noSources() []string {
	return []string{
		"", " ", "\t", ";", "'", "''", "none", "self", "unsafe-inline", "'self", "self'", "\"self\"", "''self''", "'self' ", " 'self'", "'strict-dynamic'", "'unsafe-eval'", "'nonce-a'", "**", "* ", " *", "'*'", "*:*", "*:443", "*:80", "https://*", "http://*", "https://*:*",
		"ftp:", "ws:", "data:", "blob:", ":", "::", "http", "https", "http:/", "http://", "https://", "https:///", "://a.test", "//a.test", "https:a.test", "https:/a.test", "https//a.test", "ftp://a.test", "http://https://a.test", "https://https://a.test", " https://a.test", "https:// a.test", "https:https:", "*.https://a.test", "https://user@a.test",
		"a.test:", "a.test:0", "a.test:00", "a.test:0443", "a.test:00443", "a.test:443 ", "a.test: 443", "a.test:+443", "a.test:-1", "a.test:65536", "a.test:443443", "a.test:99999999999999999999999", "a.test:4e2", "a.test:x", "a.test:**", "a.test:*9", "a.test:9*", "a.test:*:*", "a.test:443:", "a.test::443", "a.test:443:443", "a.test:1:2", ":443", ":*", "https://:443", "http://:*",
		"a.test/", "a.test/x", "a.test/*", "a.test:443/", "https://a.test/", "https://a.test:443/", "/a.test", "a.test?", "a.test#", "*.", "*.:443", "*.:*", "https://*.", "*.*.a.test", "*.*", "*.*.", "*..a.test", "*a.test", "*test", "a.*", "a.*.test", "x.*.a.test", "*.a.test.", "*.-.test", ".", "..", ".a.test", "a.test.", "a..test", "-a.test", "a.test-", "a_.test", "a test", "a,test",
		"'a.test'", "\"a.test\"", "'a.test", "a.test'", "'https://a.test'", "'*.a.test'", "'http:'", "\x00", "\x1f", "\x7f", "\xff", "a.test\x00", "\x00a.test", "a.test\n", "\na.test", "a.test\r", "a.te\xffst", "é.test", "a.te\u017ft", "http\u017f:", "'\u017felf'", "\u212a", "'self'\x00", "*\n", "https:\n",
		strings.Repeat("a", 21), strings.Repeat("a.", api.MaxHost/2) + "a", strings.Repeat("*.", 1<<16), strings.Repeat("a.", 1<<16) + "a", strings.Repeat(":", 1<<16), strings.Repeat("https://", 1<<13),
	}
}

func TestMatchKinds(t *testing.T) {
	for _, x := range []struct {
		source, self, to string
		want             bool
	}{
		{"'none'", "https://a.test", "https://a.test", false}, {"'none'", "https://a.test", "https://b.test", false}, {"'unsafe-inline'", "https://a.test", "https://a.test", false}, {"'unsafe-inline'", "https://a.test", "https://b.test", false},
		{"'self'", "https://a.test", "https://a.test", true}, {"'self'", "http://a.test:9", "http://a.test:9", true}, {"'self'", "https://a.test", "https://b.test", false}, {"'self'", "https://a.test", "http://a.test", false}, {"'self'", "http://a.test", "https://a.test", false}, {"'self'", "https://a.test", "https://a.test:8443", false}, {"'self'", "https://a.test", "https://x.a.test", false}, {"'self'", "http://a.test:9", "https://a.test:9", false},
		{"*", "https://a.test", "https://a.test", true}, {"*", "https://a.test", "http://b:9", true}, {"*", "http://a.test", "https://b", true},
		{"http:", "https://a.test", "http://b", true}, {"http:", "https://a.test", "http://b:9", true}, {"http:", "http://a.test", "https://b", false}, {"http:", "https://a.test", "https://a.test", false},
		{"https:", "http://a.test", "https://b", true}, {"https:", "http://a.test", "https://b:9", true}, {"https:", "https://a.test", "http://b", false}, {"https:", "http://a.test", "http://a.test", false},
		{"a.test", "https://b", "https://a.test", true}, {"a.test", "https://b", "https://b", false}, {"a.test", "https://b", "https://test", false},
	} {
		for _, source := range spelled(x.source) {
			if got := Match(source, at(t, x.self), at(t, x.to)); got != x.want {
				t.Errorf("P6.1: Match(%q, %s, %s): %v", source, x.self, x.to, got)
			}
		}
	}
}

func TestMatchHost(t *testing.T) {
	for _, x := range []struct {
		source, host string
		want         bool
	}{
		{"a.test", "a.test", true}, {"a.test", "x.a.test", false}, {"a.test", "xa.test", false}, {"a.test", "test", false}, {"a.test", "a.test.x", false}, {"x.a.test", "a.test", false}, {"test", "test", true}, {"test", "a.test", false}, {"0", "0", true}, {"a-b.test", "a-b.test", true},
		{"*.a.test", "a.test", false}, {"*.a.test", "x.a.test", true}, {"*.a.test", "y.x.a.test", true}, {"*.a.test", "xa.test", false}, {"*.a.test", "x-a.test", false}, {"*.a.test", "y.xa.test", false}, {"*.a.test", "a.test.x", false}, {"*.a.test", "test", false}, {"*.a.test", "a.a.test", true}, {"*.a.test", "a.test.a.test", true}, {"*.a.test", "x.b.test", false},
		{"*.test", "test", false}, {"*.test", "a.test", true}, {"*.test", "x.a.test", true}, {"*.test", "atest", false}, {"*.x.a.test", "x.a.test", false}, {"*.x.a.test", "a.test", false},
	} {
		for _, port := range []string{"", ":443", ":*"} {
			for _, scheme := range []string{"", "https://"} {
				for _, source := range spelled(scheme + x.source + port) {
					if got := Match(source, at(t, "https://b"), at(t, "https://"+x.host)); got != x.want {
						t.Errorf("P6.1: Match(%q, .., https://%s): %v", source, x.host, got)
					}
				}
			}
		}
	}
}

func TestMatchLongHost(t *testing.T) {
	whole := strings.Repeat("a.", api.MaxHost/2-1) + "aa"
	if o := at(t, "https://"+whole); !Match(whole, o, o) || !Match("*."+whole[2:], o, o) || Match("*."+whole, o, o) {
		t.Error("P6.1: Match of a host of MaxHost bytes")
	}
	longer := origin("https", "b."+whole, 443)
	if Match("b."+whole, longer, longer) || Match("*."+whole, longer, longer) || Match("*."+whole[2:], longer, longer) || Match("*.aa", longer, longer) {
		t.Error("P6.1: Match of what is too long for a host")
	}
	if label := strings.Repeat("x", 21); Match(label, origin("https", label, 443), origin("https", label, 443)) || Match("*."+label, longer, origin("https", "a."+label, 443)) {
		t.Error("P6.1: Match of a label that is too long")
	}
}

func TestMatchScheme(t *testing.T) {
	for _, host := range []string{"x.a.test", "*.a.test"} {
		for _, port := range []string{"", ":*"} {
			for _, x := range []struct {
				source, self, scheme string
				want                 bool
			}{
				{"", "https", "https", true}, {"", "https", "http", false}, {"", "http", "http", true}, {"", "http", "https", true},
				{"http://", "https", "http", true}, {"http://", "http", "http", true}, {"http://", "https", "https", false}, {"http://", "http", "https", false},
				{"https://", "https", "https", true}, {"https://", "http", "https", true}, {"https://", "http", "http", false}, {"https://", "https", "http", false},
				{"", "", "", true}, {"", "", "https", true}, {"", "", "http", false}, {"", "https", "", false}, {"", "ftp", "ftp", true}, {"", "ftp", "https", true}, {"", "http", "ftp", false}, {"http://", "", "", false}, {"https://", "HTTPS", "HTTPS", false},
			} {
				own := map[string]int{"http": 80, "https": 443}[x.scheme]
				for _, source := range spelled(x.source + host + port) {
					if got := Match(source, origin(x.self, "b", 1), origin(x.scheme, "x.a.test", own)); got != x.want {
						t.Errorf("P6.1: Match(%q) of %s, with self of %q: %v", source, x.scheme, x.self, got)
					}
				}
			}
		}
	}
}

func TestMatchPort(t *testing.T) {
	for _, host := range []string{"x.a.test", "*.a.test"} {
		for _, x := range []struct {
			port, scheme string
			to           int
			want         bool
		}{
			{"", "https", 443, true}, {"", "https", 80, false}, {"", "https", 8443, false}, {"", "https", 0, false}, {"", "http", 80, true}, {"", "http", 443, false}, {"", "http", 9, false}, {"", "http", 0, false},
			{":443", "https", 443, true}, {":443", "https", 8443, false}, {":443", "http", 443, true}, {":443", "http", 80, false}, {":80", "http", 80, true}, {":80", "https", 443, false}, {":80", "https", 80, true}, {":8443", "https", 8443, true}, {":8443", "https", 443, false}, {":1", "https", 1, true}, {":65535", "https", 65535, true},
			{":*", "https", 443, true}, {":*", "https", 9, true}, {":*", "http", 80, true}, {":*", "http", 443, true}, {":*", "https", 0, true}, {":*", "https", -1, true},
			{":", "https", 443, false}, {":0", "https", 0, false}, {":65536", "https", 65536, false}, {":-1", "https", -1, false}, {":0443", "https", 443, false}, {":443x", "https", 443, false}, {":443:443", "https", 443, false}, {":*:443", "https", 443, false}, {":443:*", "https", 443, false}, {"::", "https", 443, false}, {"::443", "https", 443, false}, {":443/", "https", 443, false}, {"/", "https", 443, false}, {":18446744073709552059", "https", 443, false},
		} {
			for _, ahead := range []string{"", x.scheme + "://"} {
				source := ahead + host + x.port
				if got := Match(source, origin(x.scheme, "b", 1), origin(x.scheme, "x.a.test", x.to)); got != x.want {
					t.Errorf("P6.1: Match(%q) of %s at %d: %v", source, x.scheme, x.to, got)
				}
			}
		}
	}
}

func TestMatchSchemeThatIsNone(t *testing.T) {
	for _, scheme := range []string{"", "ftp", "HTTPS", "http ", "https:", "\xff"} {
		self := origin(scheme, "b", 1)
		for port, want := range map[int]bool{0: true, 1: false, 80: false, 443: false, -1: false} {
			if got := Match("a.test", self, origin(scheme, "a.test", port)); got != want {
				t.Errorf("P6.1: Match of a host at %d, of scheme %q: %v", port, scheme, got)
			}
			if got := Match("*.test", self, origin(scheme, "a.test", port)); got != want {
				t.Errorf("P6.1: Match of what is under a host at %d, of scheme %q: %v", port, scheme, got)
			}
		}
		if o := origin(scheme, "a.test", 80); !Match("a.test:80", self, o) || !Match("a.test:*", self, o) || !Match("*", self, o) || Match("http:", self, o) || Match("https:", self, o) || Match("http://a.test:80", self, o) || Match("a.test:80", at(t, "https://a.test"), o) {
			t.Errorf("P6.1: Match of scheme %q", scheme)
		}
	}
}

func TestMatchEmptyOrigins(t *testing.T) {
	var none api.Origin
	for _, source := range append(kinds(), noSources()...) {
		want := source == "*" || source == "'self'"
		if got := Match(source, none, none); got != want {
			t.Errorf("P6.1: Match(%.40q) of empty origins: %v", source, got)
		}
	}
	named := at(t, "https://a.test")
	named.Name = "a"
	if !Match("'self'", named, at(t, "https://a.test")) || !Match("a.test", named, named) || Match("a", named, named) {
		t.Error("P6.1: Match: the name of an origin counts")
	}
}

func TestMatchNoSource(t *testing.T) {
	for _, source := range noSources() {
		for _, self := range origins() {
			for _, o := range []api.Origin{self, at(t, "https://a.test"), at(t, "https://x.a.test"), at(t, "http://a.test"), origin("https", source, 443), origin(strings.TrimSuffix(source, ":"), "a.test", 0), origin("ftp", "a.test", 0)} {
				plain := source == "http" || source == "https" || source == "none" || source == "self" || source == "unsafe-inline"
				if plain && o.Host == source {
					// These are hosts, if their names are strange.
					continue
				}
				if Match(source, self, o) {
					t.Errorf("P6.1: Match(%.40q, %#v, %#.200v)", source, self, o)
				}
			}
		}
	}
	for _, host := range []string{"http", "https", "none", "self", "unsafe-inline"} {
		o := origin("https", host, 443)
		if !Match(host, o, o) {
			t.Errorf("P6.1: Match(%q) of that host", host)
		}
	}
	if !Match("http:80", at(t, "https://b"), origin("https", "http", 80)) || Match("http:80", at(t, "https://b"), at(t, "http://b")) || !Match("https:*", at(t, "https://b"), at(t, "https://https:9")) || Match("https:*", at(t, "https://b"), at(t, "https://b")) {
		t.Error("P6.1: Match of hosts that are named like schemes, with a port")
	}
}

func TestMatchAll(t *testing.T) {
	for _, source := range append(kinds(), noSources()...) {
		if len(source) > 1000 {
			continue
		}
		for _, self := range origins() {
			for _, o := range origins() {
				if got, want := Match(source, self, o), plainMatch(source, self, o); got != want {
					t.Errorf("P6.1: Match(%q, %#v, %#v): %v", source, self, o, got)
				}
			}
		}
	}
}

// allTexts calls f with each text of up to longest of the given parts.
func allTexts(parts []string, longest int, f func(string)) {
	texts := []string{""}
	for range longest + 1 {
		var longer []string
		for _, s := range texts {
			f(s)
			for _, part := range parts {
				longer = append(longer, s+part)
			}
		}
		texts = longer
	}
}

func TestMatchShortTexts(t *testing.T) {
	some := []api.Origin{at(t, "https://a"), at(t, "http://a"), at(t, "https://a:9"), at(t, "http://a.a"), at(t, "https://a.a"), origin("", "a", 0), {}}
	allTexts([]string{"http", "://", "A", ".", "*", ":", "9", "'", "https"}, 5, func(source string) {
		for _, o := range some {
			if got, want := Match(source, some[1], o), plainMatch(source, some[1], o); got != want {
				t.Errorf("P6.1: Match(%q, %#v, %#v): %v", source, some[1], o, got)
			}
		}
	})
}

func TestSources(t *testing.T) {
	for _, x := range []struct {
		policy string
		want   []string
		there  bool
	}{
		{"script-src 'self'", []string{"'self'"}, true}, {"script-src B.Test 'SELF' b.test", []string{"b.test", "'self'", "b.test"}, true}, {"default-src b.test *", []string{"b.test", "*"}, true},
		{"script-src a; default-src b", []string{"a"}, true}, {"default-src b; script-src a", []string{"a"}, true}, {"default-src b; x y; script-src a", []string{"a"}, true}, {"script-src; default-src b", nil, true}, {"default-src b; script-src", nil, true}, {"script-src a; default-src", []string{"a"}, true}, {"default-src; script-src a", []string{"a"}, true}, {"default-src", nil, true}, {"script-src", nil, true},
		{"script-src a; script-src b", []string{"a"}, true}, {"script-src; script-src b", nil, true}, {"script-src a; SCRIPT-SRC b; Script-Src c", []string{"a"}, true}, {"default-src a; default-src b", []string{"a"}, true}, {"default-src; default-src b", nil, true}, {"default-src a; default-src b; script-src c; script-src d", []string{"c"}, true}, {"default-src a; script-src b; default-src c", []string{"b"}, true}, {"x a; X b; default-src c", []string{"c"}, true},
		{"Script-SRC A", []string{"a"}, true}, {"DEFAULT-SRC A", []string{"a"}, true}, {"DEFAULT-src B; SCRIPT-src A", []string{"a"}, true}, {"sCRIPT-sRC 'Unsafe-INLINE' HTTPS: HTTP://A.B:*", []string{"'unsafe-inline'", "https:", "http://a.b:*"}, true},
		{" \tscript-src\t \ta \t b\t", []string{"a", "b"}, true}, {"\tdefault-src a\t;\t", []string{"a"}, true}, {"script-src a;default-src b", []string{"a"}, true}, {";; script-src a ;;", []string{"a"}, true}, {" ; \t;script-src;a", nil, true}, {"script-src \t ", nil, true}, {"x;;default-src\tb", []string{"b"}, true},
		{"", nil, false}, {" ", nil, false}, {"\t", nil, false}, {";", nil, false}, {" ;\t; ", nil, false}, {"img-src *; style-src 'none'", nil, false}, {"a", nil, false}, {"x script-src a", nil, false}, {"x default-src", nil, false}, {"script-srcs a", nil, false}, {"script-src-elem a", nil, false}, {"xscript-src a", nil, false}, {"script src a", nil, false}, {"scriptsrc a", nil, false}, {"'script-src' a", nil, false}, {"script-src, a", nil, false}, {"script-src:a", nil, false}, {"script-src=a", nil, false}, {"script_src a", nil, false}, {"default-sr a", nil, false}, {"default-srcc a", nil, false},
		{"script-src\na", nil, false}, {"\nscript-src a", nil, false}, {"script-src\r a", nil, false}, {"script-src\va", nil, false}, {"script-src\u00a0a", nil, false}, {"script-src\x00 a", nil, false}, {"\xffscript-src a", nil, false}, {"\u017fcript-src a", nil, false}, {"script-src a\nb", []string{"a\nb"}, true}, {"script-src \n", []string{"\n"}, true}, {"script-src \xff\x00 É \x7f", []string{"\xff\x00", "É", "\x7f"}, true}, {"script-src a\x85b\xa0c", []string{"a\x85b\xa0c"}, true}, {"script-src a, b", []string{"a,", "b"}, true}, {"script-src script-src default-src", []string{"script-src", "default-src"}, true},
	} {
		got, there := Sources(x.policy)
		if there != x.there || !slices.Equal(got, x.want) {
			t.Errorf("P6.1: Sources(%q): %q, %v", x.policy, got, there)
		}
		checkPolicy(t, x.policy, at(t, "https://a"), at(t, "https://b"))
	}
}

// insert is a copy of list with one more item at a place, as the sources of a directive.
func insert(name string, list []string, at int, item string) string {
	return name + " " + strings.Join(slices.Insert(slices.Clone(list), at, item), " \t")
}

func TestLets(t *testing.T) {
	self, to := at(t, "https://a.test"), at(t, "https://b.test")
	for _, policy := range []string{"", ";", "img-src 'none'", "scripts-src 'none'", "script-src-elem 'none'"} {
		if !Lets(policy, self, to) || !Lets(policy, to, self) || !Lets(policy, api.Origin{}, api.Origin{}) {
			t.Errorf("P6.1: Lets(%q): no directive", policy)
		}
	}
	for _, policy := range []string{"script-src", "default-src", "SCRIPT-SRC ; default-src *", "default-src * ; script-src", "default-src; x *", "script-src;*"} {
		if Lets(policy, self, to) || Lets(policy, self, self) {
			t.Errorf("P6.1: Lets(%q): a directive without sources", policy)
		}
	}
	others := []string{"'none'", "c.test", "http:", "'self'", "'unsafe-inline'", "b.test:9", "?", "*."}
	for _, name := range []string{"script-src", "default-src", "Script-Src"} {
		if Lets(name+" "+strings.Join(others, " "), self, to) {
			t.Errorf("P6.1: Lets: none of the sources of %s matches", name)
		}
		for place := range len(others) + 1 {
			for _, source := range []string{"b.test", "*", "https:", "*.test", "HTTPS://B.Test:443", "b.test:*"} {
				if policy := insert(name, others, place, source); !Lets(policy, self, to) {
					t.Errorf("P6.1: Lets(%q)", policy)
				}
			}
		}
	}
	if !Lets("script-src 'self'", self, self) || Lets("script-src 'self'", self, to) || Lets("default-src *; script-src 'none'", self, to) || !Lets("default-src 'none'; script-src *", self, to) || !Lets("script-src 'none' *", self, to) || Lets("script-src a.test; script-src b.test", self, to) {
		t.Error("P6.1: Lets, of the directive that counts")
	}
	if !Lets("script-src b.test", at(t, "http://a.test"), at(t, "http://b.test")) || Lets("script-src b.test", self, at(t, "http://b.test")) {
		t.Error("P6.1: Lets hangs on the scheme of self")
	}
}

func TestInline(t *testing.T) {
	for _, policy := range []string{"", ";", "img-src 'none'", "style-src 'self'", "x", "scripts-src 'none'"} {
		if !Inline(policy) {
			t.Errorf("P6.1: Inline(%q): no directive", policy)
		}
	}
	others := []string{"'none'", "*", "'self'", "unsafe-inline", "'unsafe-inline", "'unsafe-eval'", "\"unsafe-inline\"", "'unsafe-inline',", "''unsafe-inline''", "'unsafe inline'", "https:"}
	for _, name := range []string{"script-src", "default-src", "SCRIPT-src"} {
		for _, policy := range []string{name, name + " ;x 'unsafe-inline'", name + "; " + name + " 'unsafe-inline'", name + " *", name + " " + strings.Join(others, " "), "x 'unsafe-inline';" + name} {
			if Inline(policy) {
				t.Errorf("P6.1: Inline(%q)", policy)
			}
		}
		for place := range len(others) + 1 {
			for _, source := range spelled("'unsafe-inline'") {
				if policy := insert(name, others, place, source); !Inline(policy) {
					t.Errorf("P6.1: Inline(%q)", policy)
				}
			}
		}
	}
	if Inline("default-src 'unsafe-inline'; script-src 'self'") || !Inline("default-src 'self'; script-src 'unsafe-inline'") || !Inline("style-src 'none'; default-src 'unsafe-inline'") {
		t.Error("P6.1: Inline, of the directive that counts")
	}
}

func TestPoliciesOfAllSources(t *testing.T) {
	self, to := at(t, "https://a.test"), at(t, "http://x.a.test")
	for _, name := range []string{"script-src ", "default-src ", "Default-Src\t", "img-src "} {
		for _, source := range append(kinds(), noSources()...) {
			checkPolicy(t, name+source, self, self)
			checkPolicy(t, name+source, self, to)
			checkPolicy(t, name+source+" a.test", self, self)
		}
	}
	for _, policy := range append(kinds(), noSources()...) {
		checkPolicy(t, policy, self, to)
	}
}

func TestShortPolicies(t *testing.T) {
	a, b := at(t, "https://a"), at(t, "https://b")
	allTexts([]string{"script-src", "Default-SRC", " ", ";", "\tB ", "\t'unsafe-Inline'", "x"}, 5, func(policy string) {
		checkPolicy(t, policy, a, b)
	})
}

func TestLongPolicies(t *testing.T) {
	const many = 1 << 14
	a, b := at(t, "https://a"), at(t, "https://b")
	for _, part := range []string{";", " ", "\t", "a", "a ", "a;", " ;", "script-src ", "script-src;", "default-src a;", "*.", "\xff", "'self' "} {
		text := strings.Repeat(part, many)
		for _, policy := range []string{text, "script-src " + text, "script-src " + text + " b", text + ";script-src b", text + ";default-src b"} {
			checkPolicy(t, policy, a, b)
		}
	}
}

// overlaps tells whether a piece lies within the memory of s.
func overlaps(s string, piece string) bool {
	if s == "" || piece == "" {
		return false
	}
	from, to := uintptr(unsafe.Pointer(unsafe.StringData(s))), uintptr(unsafe.Pointer(unsafe.StringData(piece)))
	return to < from+uintptr(len(s)) && from < to+uintptr(len(piece))
}

func TestAnswersAreNew(t *testing.T) {
	policy := strings.Clone("script-src 'self' b.test b.test https://*.a.test:*")
	first, _ := Sources(policy)
	second, _ := Sources(policy)
	for i, source := range first {
		if overlaps(policy, source) {
			t.Errorf("R4: Sources shares %q with its argument", source)
		}
		for _, other := range slices.Concat(first[:i], second) {
			if overlaps(source, other) {
				t.Errorf("R4: two answers share %q", source)
			}
		}
	}
	first[0] = "x"
	_ = append(first, "y")
	if want := []string{"'self'", "b.test", "b.test", "https://*.a.test:*"}; !slices.Equal(second, want) {
		t.Errorf("R4: two answers of Sources share memory: %q", second)
	}
}

func TestFromSeveralGoroutines(t *testing.T) {
	a, b := at(t, "https://a.test"), at(t, "https://b.test")
	var group sync.WaitGroup
	for range 8 {
		group.Go(func() {
			for range 200 {
				sources, ok := Sources("script-src 'SELF' B.Test")
				if !ok || !slices.Equal(sources, []string{"'self'", "b.test"}) || !Lets("script-src b.test", a, b) || Lets("script-src 'self'", a, b) || !Inline("x") || Inline("script-src") || !Match("*.test", a, b) || Match("'none'", a, b) {
					t.Error("R5: another answer from several goroutines")
				}
			}
		})
	}
	group.Wait()
}

func FuzzMatch(f *testing.F) {
	for _, source := range append(kinds(), noSources()[:100]...) {
		f.Add(source, "https", "b", 443, "https", "x.a.test", 443)
		f.Add(source, "http", "a.test", 80, "http", "a.test", 9)
	}
	f.Fuzz(func(t *testing.T, source string, scheme string, host string, port int, to string, toHost string, toPort int) {
		self, o := origin(scheme, host, port), origin(to, toHost, toPort)
		if got, want := Match(source, self, o), plainMatch(source, self, o); got != want {
			t.Errorf("P6.1: Match(%q, %#v, %#v): %v", source, self, o, got)
		}
	})
}

func FuzzPolicy(f *testing.F) {
	for _, policy := range []string{"", ";", "script-src 'self' B.Test", "default-src b; script-src", "\tDEFAULT-SRC\t'unsafe-inline' ;", "script-src\xff a\n", "x;default-src http://*.b:*"} {
		f.Add(policy)
	}
	f.Fuzz(func(t *testing.T, policy string) {
		checkPolicy(t, policy, at(t, "https://a"), at(t, "https://b"))
		checkPolicy(t, policy, at(t, "http://b"), at(t, "http://b:9"))
	})
}
