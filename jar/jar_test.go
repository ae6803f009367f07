package jar

import (
	"math"
	"regexp"
	"slices"
	"strings"
	"sync"
	"testing"

	"moat/api"
)

// hostForm says what a host is in another way than the program does.
var hostForm = regexp.MustCompile(`^(?:[a-z0-9]|[a-z0-9][a-z0-9-]{0,18}[a-z0-9])(?:\.(?:[a-z0-9]|[a-z0-9][a-z0-9-]{0,18}[a-z0-9]))*\z`)

func isHost(s string) bool { return len(s) <= api.MaxHost && hostForm.MatchString(s) }

// plainFits is Fits, said in another way.
func plainFits(c api.Cookie, host string, to api.Origin, path string) bool {
	below := c.Domain != "" && isHost(to.Host) && isHost(c.Domain) && strings.HasSuffix("."+to.Host, "."+c.Domain)
	rest, begins := strings.CutPrefix(path, c.Path)
	goesOn := strings.HasSuffix(c.Path, "/") || strings.HasPrefix(rest, "/")
	return (to.Host == host || below) && (path == c.Path || begins && goesOn) && (!c.Secure || to.Scheme == "https")
}

// check holds Fits and Visible against what is wanted, with what does not count told in other ways.
func check(t *testing.T, c api.Cookie, host string, to api.Origin, path string, want bool) {
	t.Helper()
	for _, same := range []int{0, api.None, api.Lax, api.Strict, 4, -1} {
		for _, port := range []int{0, 80, 443, -1} {
			c.Same, to.Port, c.HTTPOnly = same, port, false
			if got := Fits(c, host, to, path); got != want {
				t.Errorf("P8.1: Fits(%+v, %.80q, %+v, %.80q): %v", c, host, to, path, got)
			}
			if got := Visible(c, host, to, path); got != want {
				t.Errorf("P8.1: Visible(%+v, %.80q, %+v, %.80q): %v", c, host, to, path, got)
			}
			c.HTTPOnly = true
			if got := Fits(c, host, to, path); got != want {
				t.Errorf("P8.1: Fits(%+v, %.80q, %+v, %.80q): %v", c, host, to, path, got)
			}
			if Visible(c, host, to, path) {
				t.Errorf("P8.1: Visible(%+v, %.80q, %+v, %.80q), in spite of HTTPOnly", c, host, to, path)
			}
		}
	}
}

func at(scheme string, host string) api.Origin { return api.Origin{Scheme: scheme, Host: host} }

func TestFitsOwnHost(t *testing.T) {
	for _, x := range []struct {
		own, host string
		want      bool
	}{
		{"a.test", "a.test", true}, {"test", "test", true}, {"x.a.test", "x.a.test", true},
		{"a.test", "x.a.test", false}, {"test", "a.test", false}, {"a.test", "y.x.a.test", false},
		{"a.test", "test", false}, {"x.a.test", "a.test", false}, {"x.a.test", "test", false},
		{"a.test", "b.test", false}, {"a.test", "xa.test", false}, {"a.test", "a.tes", false}, {"a.test", "a.testx", false}, {"a.test", "a.other", false}, {"a.test", "", false}, {"", "a.test", false},
		{"a.test", "A.test", false}, {"A.test", "a.test", false}, {"a.test", "a.test.", false}, {"a.test", ".a.test", false}, {"a.test", "a.test\x00", false},
		// What is no host is itself all the same: the chapter asks nothing more of it.
		{"", "", true}, {"A..b", "A..b", true}, {"\xff", "\xff", true},
	} {
		check(t, api.Cookie{Path: "/"}, x.own, at("http", x.host), "/", x.want)
		check(t, api.Cookie{Path: "/", Name: "n", Origin: 7}, x.own, at("https", x.host), "/", x.want)
	}
}

func TestFitsDomain(t *testing.T) {
	for _, x := range []struct {
		domain, own, host string
		want              bool
	}{
		{"a.test", "x.a.test", "a.test", true}, {"a.test", "a.test", "a.test", true},
		{"a.test", "x.a.test", "x.a.test", true}, {"a.test", "x.a.test", "y.a.test", true}, {"a.test", "a.test", "y.a.test", true}, {"a.test", "a.test", "z.y.a.test", true}, {"x.a.test", "x.a.test", "y.x.a.test", true},
		{"a.test", "x.a.test", "xa.test", false}, {"a.test", "x.a.test", "x-a.test", false}, {"a.test", "a.test", "b.xa.test", false},
		{"a.test", "x.a.test", "test", false}, {"x.a.test", "x.a.test", "a.test", false},
		{"a.test", "x.a.test", "b.test", false}, {"a.test", "x.a.test", "a.other", false}, {"a.test", "x.a.test", "a.test.other", false}, {"a.test", "x.a.test", "", false},
		// The own host is one for it, whatever the Domain.
		{"a.test", "b.other", "b.other", true}, {"x.a.test", "a.test", "a.test", true}, {"a.test", "b.other", "c.other", false}, {"a.test", "b.other", "a.test", true}, {"a.test", "", "x.a.test", true},
		// A Domain, or a host, that is none has nothing under it, and stands under nothing, not even itself.
		{"A.test", "x.a.test", "y.A.test", false}, {"A.test", "x.a.test", "A.test", false}, {".a.test", "x.a.test", "y.a.test", false}, {".a.test", "x.a.test", ".a.test", false}, {".", "a", "b.", false}, {"*", "a", "b", false}, {"a.test", "x.a.test", ".a.test", false}, {"a.test", "x.a.test", "Y.a.test", false}, {"a.test", "x.a.test", "-.a.test", false}, {"a.test", "x.a.test", "\xff.a.test", false}, {"\x00", "a", "\x00", false}, {"\x00", "a", "a", true},
		{"a.test", "x.a.test", strings.Repeat("y.", 30) + "a.test", false}, {strings.Repeat("a", 21), "x", strings.Repeat("a", 21), false}, {"a.test", "x", strings.Repeat("y.", 1<<16) + "a.test", false},
		{"test", "a.test", "b.test", true},
	} {
		check(t, api.Cookie{Path: "/", Domain: x.domain}, x.own, at("http", x.host), "/", x.want)
		check(t, api.Cookie{Path: "/", Domain: x.domain}, x.own, at("https", x.host), "/b", x.want)
		check(t, api.Cookie{Path: "/", Domain: x.domain, Secure: true}, x.own, at("https", x.host), "/", x.want)
	}
}

func TestFitsPath(t *testing.T) {
	long := strings.Repeat("/b", 1<<15)
	for _, x := range []struct {
		top, path string
		want      bool
	}{
		{"/b", "/b", true}, {"/b/c", "/b/c", true},
		{"/b", "/b/", true}, {"/b", "/b/c", true}, {"/b", "/b/c/d", true}, {"/b/c", "/b/c/d", true}, {"/b", "/b//", true},
		{"/b", "/bc", false}, {"/b", "/b.c", false}, {"/b", "/b-", false}, {"/b", "/bc/d", false}, {"/b", "/bb/b", false}, {"/b/c", "/b/cd", false},
		{"/b", "/", false}, {"/bc", "/b", false}, {"/b/c", "/b", false}, {"/b/c", "/b/", false},
		{"/b", "/c", false}, {"/b", "/c/b", false}, {"/b/c", "/c/b/c", false}, {"/b", "/B", false}, {"/b", "b", false}, {"/b/c", "/x/c/d", false}, {"/b/c", "/b/x/c", false},
		{"/b/", "/b/", true}, {"/b/", "/b/c", true}, {"/b/", "/b/c/d", true}, {"/b/", "/b//", true}, {"/b/", "/b", false}, {"/b/", "/bc", false}, {"/b/", "/bc/", false}, {"/b/", "/", false}, {"/b/", "/c/", false}, {"/b//", "/b/", false}, {"/b//", "/b//c", true},
		{"/", "/", true}, {"/", "/b", true}, {"/", "/b/c", true}, {"/", "//", true}, {"//", "//", true}, {"//", "/", false}, {"//", "//b", true}, {"//", "/b", false},
		{"", "", true}, {"", "/", true}, {"", "/b", true}, {"", "b", false}, {"", "b/", false}, {"", "b/c", false}, {"/", "", false}, {"/b", "", false}, {"/", "b", false}, {"/", "b/", false},
		{"b", "b", true}, {"b", "b/c", true}, {"b", "bc", false}, {"b/", "b/c", true}, {"b", "/b", false}, {"b", "c/b", false}, {"b", "/b/", false},
		{"\xff", "\xff/", true}, {"\xff", "\xff\x00", false}, {"/\x00", "/\x00/", true}, {" ", " ", true}, {" ", " /", true}, {" /", " ", false},
		{long, long, true}, {long, long + "/", true}, {long, long + "b", false}, {long + "/", long, false}, {"/", long, true}, {"/b", long, true}, {"/c", long, false}, {long, "/b", false},
	} {
		for _, scheme := range []string{"http", "https"} {
			check(t, api.Cookie{Path: x.top}, "a", at(scheme, "a"), x.path, x.want)
			check(t, api.Cookie{Path: x.top}, "a", at(scheme, "b"), x.path, false)
			check(t, api.Cookie{Path: x.top, Domain: "a.test"}, "a", at(scheme, "x.a.test"), x.path, x.want)
		}
	}
}

func TestFitsSecure(t *testing.T) {
	for scheme, safe := range map[string]bool{"https": true, "http": false, "": false, "HTTPS": false, "Https": false, "https:": false, "https://": false, "httpss": false, " https": false, "ftp": false, "wss": false, "\x00": false, "http\xff": false} {
		check(t, api.Cookie{Path: "/", Secure: true}, "a", at(scheme, "a"), "/", safe)
		check(t, api.Cookie{Path: "/", Secure: true, Domain: "a.test"}, "b", at(scheme, "x.a.test"), "/c", safe)
		check(t, api.Cookie{Path: "/"}, "a", at(scheme, "a"), "/", true)
		check(t, api.Cookie{Path: "/", Domain: "a.test"}, "b", at(scheme, "x.a.test"), "/c", true)
		check(t, api.Cookie{Path: "/", Secure: true}, "a", at(scheme, "b"), "/", false)
		check(t, api.Cookie{Path: "/b", Secure: true}, "a", at(scheme, "a"), "/", false)
	}
}

func TestFitsZeroes(t *testing.T) {
	check(t, api.Cookie{}, "", api.Origin{}, "", true)
	check(t, api.Cookie{Secure: true}, "", api.Origin{}, "", false)
	check(t, api.Cookie{}, "a", api.Origin{}, "", false)
	check(t, api.Cookie{}, "", api.Origin{}, "a", false)
	check(t, api.Cookie{Domain: "a"}, "", api.Origin{}, "", true)
}

// texts lists the texts of so many bytes at most, each byte one of letters.
func texts(letters string, most int) []string {
	all, longest := []string{""}, []string{""}
	for range most {
		var longer []string
		for _, s := range longest {
			for _, letter := range letters {
				longer = append(longer, s+string(letter))
			}
		}
		all, longest = append(all, longer...), longer
	}
	return all
}

func TestFitsAll(t *testing.T) {
	hosts := []string{"", "a", "test", "a.test", "xa.test", "x.a.test", "y.x.a.test", "b.test", ".test", "A.test", "a.test."}
	paths := texts("/bc", 4)
	for _, host := range hosts {
		for _, own := range hosts {
			for _, domain := range hosts {
				for _, scheme := range []string{"http", "https"} {
					for _, secure := range []bool{false, true} {
						c, to := api.Cookie{Path: "/b", Domain: domain, Secure: secure}, at(scheme, host)
						if got, want := Fits(c, own, to, "/b"), plainFits(c, own, to, "/b"); got != want {
							t.Errorf("P8.1: Fits(%+v, %q, %+v): %v", c, own, to, got)
						}
					}
				}
			}
		}
	}
	for _, top := range paths {
		for _, path := range paths {
			c := api.Cookie{Path: top}
			if got, want := Fits(c, "a", at("http", "a"), path), plainFits(c, "a", at("http", "a"), path); got != want {
				t.Errorf("P8.1: Fits of %q, asked for %q: %v", top, path, got)
			}
		}
	}
}

// checkGoes holds Goes against what is wanted, with what else a cookie has told in other ways.
func checkGoes(t *testing.T, same int, near bool, top bool, method string, want bool) {
	t.Helper()
	for _, c := range []api.Cookie{{}, {Secure: true}, {HTTPOnly: true}, {Name: "n", Origin: 3, Domain: "a.test", Path: "/"}} {
		c.Same = same
		if got := Goes(c, near, top, method); got != want {
			t.Errorf("P8.1: Goes(%+v, %v, %v, %.80q): %v", c, near, top, method, got)
		}
	}
}

func TestGoes(t *testing.T) {
	reading := []string{"GET", "HEAD"}
	others := []string{"POST", "PUT", "DELETE", "PATCH", "", "get", "Get", "head", "GET ", " GET", "GETS", "GE", "HEADS", "HEA", "OPTIONS", "GETHEAD", "GET\x00", "\xff", strings.Repeat("GET", 1<<14)}
	nones := []int{0, 4, -1, -2, -3, 257, 258, 1<<32 + 1, 1<<32 + 2, math.MaxInt, math.MinInt}
	for _, same := range append(nones, api.None, api.Lax, api.Strict) {
		for _, method := range append(reading, others...) {
			for _, top := range []bool{false, true} {
				checkGoes(t, same, true, top, method, true)
				checkGoes(t, same, false, top, method, same == api.None || same == api.Lax && top && slices.Contains(reading, method))
			}
		}
	}
	checkGoes(t, api.Strict, false, true, "GET", false)
	checkGoes(t, api.Lax, false, true, "GET", true)
	checkGoes(t, api.Lax, false, true, "HEAD", true)
	checkGoes(t, api.Lax, false, true, "POST", false)
	checkGoes(t, api.Lax, false, false, "GET", false)
	checkGoes(t, api.None, false, false, "POST", true)
}

// origins are of three sites, and such that are of none.
func origins() []api.Origin {
	return []api.Origin{
		{Name: "a", Scheme: "https", Host: "a.b.test", Port: 443},
		{Name: "b", Scheme: "https", Host: "c.b.test", Port: 8443},
		{Name: "c", Scheme: "http", Host: "a.b.test", Port: 80},
		{Name: "d", Scheme: "https", Host: "b.other", Port: 443},
		{Name: "e", Scheme: "https", Host: "b.test", Port: 443},
		{Name: "f", Scheme: "https", Host: "A..test", Port: 443},
		{Name: "g", Scheme: "", Host: "a.b.test", Port: 443},
		{},
	}
}

// noNumbers are numbers of no origin, in a list of so many.
func noNumbers(n int) []int {
	return []int{api.Evil, api.Opaque, -4, -5, -99, -n, -n - 1, n, n + 1, 2*n + 9, 1 << 16, 1 << 32, -1 << 32, math.MaxInt32, math.MinInt32, math.MaxInt, math.MinInt}
}

func checkNear(t *testing.T, by int, to int, os []api.Origin, want bool) {
	t.Helper()
	if got := Near(by, to, os); got != want {
		t.Errorf("P8.1: Near(%d, %d) of %d origins: %v", by, to, len(os), got)
	}
}

func TestNearOrigins(t *testing.T) {
	// The origins that are near each other, by their numbers; none of the last three is near anything.
	near := [][]int{{0, 1, 4}, {2}, {3}}
	for by := range origins() {
		for to := range origins() {
			want := slices.ContainsFunc(near, func(site []int) bool { return slices.Contains(site, by) && slices.Contains(site, to) })
			checkNear(t, by, to, origins(), want)
		}
	}
}

func TestNearUser(t *testing.T) {
	for _, os := range [][]api.Origin{nil, {}, origins()[:1], origins()} {
		for _, to := range append(noNumbers(len(os)), 0, 1, 7, api.User) {
			checkNear(t, api.User, to, os, true)
			if to != api.User {
				checkNear(t, to, api.User, os, false)
			}
		}
	}
}

func TestNearNoNumbers(t *testing.T) {
	// An origin beyond the end is none, even where there is room for it.
	roomy := origins()[:1:4]
	for _, os := range [][]api.Origin{nil, {}, origins()[:1], origins()[3:4], roomy, origins()} {
		for _, none := range noNumbers(len(os)) {
			if none == api.User {
				continue
			}
			checkNear(t, none, none, os, false)
			for _, other := range append(noNumbers(len(os)), 0, 1, 3) {
				if other != api.User {
					checkNear(t, other, none, os, false)
				}
				checkNear(t, none, other, os, false)
			}
		}
	}
	checkNear(t, 0, 0, nil, false)
	checkNear(t, 0, 0, []api.Origin{}, false)
	checkNear(t, 0, 1, roomy, false)
	checkNear(t, 1, 0, roomy, false)
	checkNear(t, 0, 0, roomy, true)
}

func TestNearLeavesTheListAlone(t *testing.T) {
	os := origins()
	for by := -4; by < len(os)+2; by++ {
		for to := -4; to < len(os)+2; to++ {
			Near(by, to, os[:3])
		}
	}
	if !slices.Equal(os, origins()) {
		t.Error("R4: Near changed its list")
	}
}

func TestFromSeveralGoroutines(t *testing.T) {
	c, to, os := api.Cookie{Domain: "a.test", Path: "/b", Secure: true, Same: api.Lax}, at("https", "y.a.test"), origins()
	var group sync.WaitGroup
	for range 8 {
		group.Go(func() {
			for range 200 {
				if !Fits(c, "x.a.test", to, "/b/c") || !Visible(c, "x.a.test", to, "/b") || !Goes(c, false, true, "GET") || !Near(0, 1, os) || Near(0, 3, os) {
					t.Error("R5: another answer from several goroutines")
				}
			}
		})
	}
	group.Wait()
}

func FuzzFits(f *testing.F) {
	for _, path := range []string{"", "/", "/b", "/b/", "/b/c", "b", "\xff"} {
		f.Add("", "/b", "a.test", "https", "a.test", path, true)
		f.Add("a.test", path, "x.a.test", "http", "y.a.test", "/b", false)
	}
	f.Fuzz(func(t *testing.T, domain string, top string, own string, scheme string, host string, path string, secure bool) {
		c, to := api.Cookie{Domain: domain, Path: top, Secure: secure}, at(scheme, host)
		check(t, c, own, to, path, plainFits(c, own, to, path))
	})
}
