package domain

import (
	"slices"
	"strings"
	"sync"
	"testing"

	"moat/api"
	"moat/url"
)

// hostOf makes a host of n bytes, whose labels have 20 bytes at most.
func hostOf(n int) string {
	b := []byte(strings.Repeat("a", n))
	for i := 10; i < n-1; i += 11 {
		b[i] = '.'
	}
	return string(b)
}

// noHosts are texts that are no hosts, each for another reason.
func noHosts() []string {
	return []string{
		"", ".", "..", ".a", "a.", "a..b", ".a.b", "a.b.", "..b.c", "b.c..",
		"A", "A.b", "a.B.c", "b.C", "-a.b", "a-.b", "a.-b", "a.b-", "-", "a.-.b",
		"a b.c", " a.b", "a.b ", "a_b.c", "a/b.c", "a.b/", "a.b:80", "https://a.b", "é.b", "a.\xff", "a.\x00", "\x00",
		strings.Repeat("a", 21), "a." + strings.Repeat("a", 21), strings.Repeat("a", 21) + ".b.c",
		hostOf(api.MaxHost + 1), strings.Repeat("a.", 1<<18) + "a",
	}
}

// hosts are hosts of one label and of more.
func hosts() []string {
	return []string{
		"a", "c", "example", "0", "x-y", "a.c", "b.c", "ab.c", "b.example", "a.b.c", "x.b.c", "b.b.c", "c.b.a", "a.b.example",
		"x.a.b.c", "1.2.3.4", "a.a.a.a.a", "a.b.c.d.e.f", "x-y.z--w.a-b", "c.c", "c.c.c",
		strings.Repeat("x", 20), "a." + strings.Repeat("x", 20) + "." + strings.Repeat("y", 20), hostOf(api.MaxHost - 1), hostOf(api.MaxHost), strings.Repeat("a.", api.MaxHost/2-1) + "aa",
	}
}

func TestLabels(t *testing.T) {
	for host, want := range map[string][]string{
		"example":      {"example"},
		"0":            {"0"},
		"b.example":    {"b", "example"},
		"a.b.example":  {"a", "b", "example"},
		"x.a.b.c":      {"x", "a", "b", "c"},
		"a.a.a.a.a":    {"a", "a", "a", "a", "a"},
		"x-y.z--w.a-b": {"x-y", "z--w", "a-b"},
	} {
		if got := Labels(host); !slices.Equal(got, want) {
			t.Errorf("P2.1: Labels(%q): %q", host, got)
		}
	}
	for _, host := range hosts() {
		got := Labels(host)
		if len(got) != strings.Count(host, ".")+1 || strings.Join(got, ".") != host {
			t.Errorf("P2.1: Labels(%q): %q", host, got)
		}
	}
}

func TestSite(t *testing.T) {
	for host, want := range map[string]string{
		"example":      "example",
		"0":            "0",
		"b.example":    "b.example",
		"a.b.example":  "b.example",
		"x.a.b.c":      "b.c",
		"a.b.c.d.e.f":  "e.f",
		"a.a.a":        "a.a",
		"1.2.3.4":      "3.4",
		"x-y.z--w.a-b": "z--w.a-b",
	} {
		if got := Site(host); got != want {
			t.Errorf("P2.1: Site(%q): %q", host, got)
		}
	}
	for _, host := range hosts() {
		labels := strings.Split(host, ".")
		want := strings.Join(labels[max(0, len(labels)-2):], ".")
		if got := Site(host); got != want || Site(got) != want {
			t.Errorf("P2.1: Site(%q): %q", host, got)
		}
	}
}

func TestLongHosts(t *testing.T) {
	for n := 1; n <= api.MaxHost+5; n++ {
		host := hostOf(n)
		want := n <= api.MaxHost
		if got := Site(host) != ""; got != want {
			t.Errorf("P2.1: Site of %d bytes: %q", n, Site(host))
		}
		if got := len(Labels(host)) > 0; got != want {
			t.Errorf("P2.1: Labels of %d bytes: %q", n, Labels(host))
		}
		if got := Under(host, host); got != want {
			t.Errorf("P2.1: Under of %d bytes: %v", n, got)
		}
		o := api.Origin{Scheme: "https", Host: host, Port: 443}
		if got := SameSite(o, o); got != want {
			t.Errorf("P2.1: SameSite of %d bytes: %v", n, got)
		}
	}
	if domain := hostOf(api.MaxHost - 2); !Under("b."+domain, domain) || Under("bb."+domain, domain) {
		t.Error("P2.1: Under, a host of MaxHost bytes and one of more, under the same")
	}
}

func TestNoHosts(t *testing.T) {
	for _, s := range noHosts() {
		if got := Site(s); got != "" {
			t.Errorf("P2.1: Site(%.40q): %.40q", s, got)
		}
		if got := Labels(s); len(got) != 0 {
			t.Errorf("P2.1: Labels(%.40q): %d of them", s, len(got))
		}
		for _, domain := range append(hosts(), noHosts()...) {
			if Under(s, domain) || Under(domain, s) {
				t.Errorf("P2.1: Under, %.40q and %.40q, on either side", s, domain)
			}
		}
		for _, host := range append(hosts(), s, "") {
			a, b := api.Origin{Scheme: "https", Host: s, Port: 443}, api.Origin{Scheme: "https", Host: host, Port: 443}
			if SameSite(a, b) || SameSite(b, a) {
				t.Errorf("P2.1: SameSite of %.40q and %.40q", s, host)
			}
		}
	}
}

func TestUnder(t *testing.T) {
	for _, x := range []struct {
		host, domain string
		want         bool
	}{
		{"c", "c", true}, {"b.c", "b.c", true}, {"a.b.c", "a.b.c", true},
		{"b.c", "c", true}, {"a.b.c", "c", true}, {"a.b.c", "b.c", true}, {"x.a.b.c", "b.c", true}, {"x.a.b.c", "a.b.c", true}, {"c.c", "c", true},
		{"ab.c", "b.c", false}, {"bc", "c", false}, {"a.bc", "c", false}, {"x.ab.c", "b.c", false}, {"a-b.c", "b.c", false},
		{"c", "b.c", false}, {"b.c", "a.b.c", false}, {"c", "c.c", false},
		{"a.b.c", "a", false}, {"a.b.c", "b", false}, {"a.b.c", "a.b", false}, {"a.b.c", "a.c", false}, {"a.b.c", "x.b.c", false}, {"c.b", "b.c", false},
		{"a.b.c", ".b.c", false}, {"a.b.c", ".c", false}, {"a.b.c", "c.", false}, {"a.b.c.", "c.", false}, {"a.b.c.", "c", false}, {"a.b.c", "", false}, {"", "c", false}, {"", "", false},
		{"a.B", "B", false}, {"A.b", "b", false}, {".c", "c", false}, {"-.c", "c", false}, {"a..c", "c", false},
	} {
		if got := Under(x.host, x.domain); got != x.want {
			t.Errorf("P2.1: Under(%q, %q): %v", x.host, x.domain, got)
		}
	}
}

func TestUnderAllPairs(t *testing.T) {
	for _, host := range hosts() {
		for _, domain := range hosts() {
			want := host == domain || strings.HasSuffix(host, "."+domain)
			if got := Under(host, domain); got != want {
				t.Errorf("P2.1: Under(%q, %q): %v", host, domain, got)
			}
		}
		for i := range host {
			if got, want := Under(host, host[i:]), url.Host(host[i:]) && (i == 0 || host[i-1] == '.'); got != want {
				t.Errorf("P2.1: Under(%q, %q): %v", host, host[i:], got)
			}
		}
	}
}

func origin(scheme string, host string, port int) api.Origin {
	return api.Origin{Scheme: scheme, Host: host, Port: port}
}

func TestSameSite(t *testing.T) {
	named := origin("https", "b.c", 443)
	named.Name = "shop"
	for _, x := range []struct {
		a, b api.Origin
		want bool
	}{
		{origin("https", "a.b.c", 443), origin("https", "a.b.c", 443), true},
		{origin("https", "a.b.c", 443), origin("https", "x.b.c", 443), true},
		{origin("https", "b.c", 443), origin("https", "a.b.c", 443), true},
		{origin("https", "b.c", 443), origin("https", "x.a.b.c", 443), true},
		{origin("http", "b.c", 80), origin("http", "a.b.c", 8080), true},
		{origin("https", "b.c", 443), origin("https", "b.c", 8443), true},
		{origin("https", "c", 1), origin("https", "c", 2), true},
		{origin("https", "b.c", 0), origin("https", "b.c", -1), true},
		{origin("x", "b.c", 1), origin("x", "b.c", 1), true},
		{named, origin("https", "b.c", 443), true},
		{origin("http", "b.c", 443), origin("https", "b.c", 443), false},
		{origin("http", "b.c", 80), origin("https", "b.c", 443), false},
		{origin("https", "b.c", 1), origin("HTTPS", "b.c", 1), false},
		{origin("https", "a.c", 443), origin("https", "b.c", 443), false},
		{origin("https", "c", 443), origin("https", "b.c", 443), false},
		{origin("https", "a.b.c", 443), origin("https", "a.b.d", 443), false},
		{origin("https", "ab.c", 443), origin("https", "b.c", 443), false},
		{origin("https", "", 443), origin("https", "", 443), false},
		{origin("https", "b.c", 443), origin("https", "", 443), false},
		{origin("https", "a..c", 443), origin("https", "a..c", 443), false},
		{origin("", "b.c", 443), origin("", "b.c", 443), false},
		{origin("", "b.c", 443), origin("https", "b.c", 443), false},
		{api.Origin{}, api.Origin{}, false},
	} {
		if got := SameSite(x.a, x.b); got != x.want {
			t.Errorf("P2.1: SameSite(%v, %v): %v", x.a, x.b, got)
		}
		if got := SameSite(x.b, x.a); got != x.want {
			t.Errorf("P2.1: SameSite(%v, %v): %v", x.b, x.a, got)
		}
	}
}

func TestSameSiteAllPairs(t *testing.T) {
	for _, a := range hosts() {
		for _, b := range hosts() {
			if got, want := SameSite(origin("https", a, 443), origin("https", b, 80)), Site(a) == Site(b); got != want {
				t.Errorf("P2.1: SameSite of %q and %q: %v", a, b, got)
			}
			if SameSite(origin("https", a, 443), origin("http", b, 443)) {
				t.Errorf("P2.1: SameSite of %q and %q, of two schemes", a, b)
			}
		}
	}
}

func TestLabelsAreNew(t *testing.T) {
	first, second := Labels("a.b.c"), Labels("a.b.c")
	first[0] = "x"
	_ = append(first, "y")
	if !slices.Equal(second, []string{"a", "b", "c"}) || !slices.Equal(Labels("a.b.c"), []string{"a", "b", "c"}) {
		t.Error("R4: two answers of Labels share memory")
	}
}

func TestFromSeveralGoroutines(t *testing.T) {
	var group sync.WaitGroup
	for range 8 {
		group.Go(func() {
			for range 200 {
				if Site("a.b.c") != "b.c" || len(Labels("a.b.c")) != 3 || !Under("a.b.c", "c") || !SameSite(origin("x", "a.b.c", 1), origin("x", "b.c", 1)) {
					t.Error("R5: another answer from several goroutines")
				}
			}
		})
	}
	group.Wait()
}

func FuzzHosts(f *testing.F) {
	for _, s := range append(hosts(), "", "a..b", ".a", "A.b") {
		f.Add(s, "b.c")
		f.Add(s, s)
	}
	f.Fuzz(func(t *testing.T, a string, b string) {
		ok := url.Host(a)
		if labels := Labels(a); ok != (len(labels) > 0) || ok && strings.Join(labels, ".") != a {
			t.Errorf("P2.1: Labels(%q): %q", a, labels)
		}
		if site := Site(a); ok != (site != "") || ok && (!Under(a, site) || strings.Count(site, ".") > 1) {
			t.Errorf("P2.1: Site(%q): %q", a, site)
		}
		want := ok && url.Host(b) && (a == b || strings.HasSuffix(a, "."+b))
		if got := Under(a, b); got != want {
			t.Errorf("P2.1: Under(%q, %q): %v", a, b, got)
		}
	})
}
