package safe

import (
	"slices"
	"strings"
	"sync"
	"testing"
)

// methods are the known ones; the first three need no leave.
func methods() []string { return []string{"GET", "HEAD", "POST", "PUT", "DELETE", "PATCH"} }

// safeHeads are the names of headers that need no leave.
func safeHeads() []string {
	return []string{"accept", "accept-language", "content-language", "range"}
}

// otherHeads are texts that name no header that needs no leave, each for another reason.
func otherHeads() []string {
	return []string{
		"", " ", "\t", "x-a", "X-A", "content-type", "Content-Type", "authorization", "cookie", "origin", "host", "accept-encoding", "accept-charset", "content-length", "if-range", "language", "content",
		"accept_language", "acceptlanguage", "accept language", "accept--language", "accept,range", "accept, range", "accept;q=1", "accept: a", "*", "GET",
		"\x00", "accept\x00", "\x7f", "\x1f", "\x80", "\xff", "range\xff", "é", "\u0430ccept", "ran\u0261e", "content-\u017fanguage", "a\u212accept", strings.Repeat("accept", 1<<16),
	}
}

// mixed is s with each second byte's letter as a capital one, from a place on.
func mixed(s string, from int) string {
	b := []byte(s)
	for i := from; i < len(b); i += 2 {
		b[i] = strings.ToUpper(s)[i]
	}
	return string(b)
}

// near lists texts that are a byte more, a byte less, or another byte away from s.
func near(s string) []string {
	var texts []string
	for i := range len(s) + 1 {
		for c := range 256 {
			texts = append(texts, s[:i]+string([]byte{byte(c)})+s[i:])
		}
		if i == len(s) {
			break
		}
		texts = append(texts, s[:i]+s[i+1:])
		for c := range 256 {
			texts = append(texts, s[:i]+string([]byte{byte(c)})+s[i+1:])
		}
	}
	return texts
}

func TestMethods(t *testing.T) {
	for i, m := range methods() {
		if !Known(m) {
			t.Errorf("P4.1: Known(%q)", m)
		}
		if got := Method(m); got != (i < 3) {
			t.Errorf("P4.1: Method(%q): %v", m, got)
		}
		if got := Simple(m); got != (i < 3) {
			t.Errorf("P4.1: Simple(%q): %v", m, got)
		}
	}
}

func TestNoMethods(t *testing.T) {
	texts := []string{
		"", " ", "\t", "\n", "OPTIONS", "TRACE", "CONNECT", "QUERY", "options", "*", "GET,POST", "GET POST", "GETPOST", "GETGET", "Get", "Head", "Post", "Put", "Delete", "Patch",
		"\x00", "\x1f", "\x7f", "\x80", "\xff", "é", "GÉT", "GET\x00", "\x00GET", "GET\xff", "P\u00d6ST", strings.Repeat("GET", 1<<16),
	}
	for _, m := range methods() {
		texts = append(texts, strings.ToLower(m), mixed(strings.ToLower(m), 0), mixed(strings.ToLower(m), 1), " "+m, m+" ", " "+m+" ", "\t"+m, m+"\t", m+"\n", m[1:], m[:len(m)-1], m+"X", "X"+m)
		texts = append(texts, near(m)...)
	}
	for _, m := range texts {
		if slices.Contains(methods(), m) {
			continue
		}
		if Known(m) || Method(m) || Simple(m) || Simple(m, "accept") {
			t.Errorf("P4.1: %.40q is a method", m)
		}
	}
}

func TestHead(t *testing.T) {
	for _, name := range safeHeads() {
		for _, s := range []string{name, strings.ToUpper(name), mixed(name, 0), mixed(name, 1), strings.ToUpper(name[:1]) + name[1:]} {
			if !Head(s) {
				t.Errorf("P4.1: Head(%q)", s)
			}
		}
	}
	for _, s := range []string{"Accept", "Accept-Language", "Content-Language", "Range", "aCCEPT-lANGUAGE"} {
		if !Head(s) {
			t.Errorf("P4.1: Head(%q)", s)
		}
	}
}

func TestNoHead(t *testing.T) {
	texts := otherHeads()
	for _, name := range safeHeads() {
		texts = append(texts, " "+name, name+" ", "\t"+name, name+"\t", name+"\n", name+"-", "-"+name, name+name, name[1:], name[:len(name)-1])
		texts = append(texts, near(name)...)
	}
	for _, s := range texts {
		// EqualFold takes letters beyond A to Z for the same, so that only texts of plain bytes are asked.
		plain := strings.IndexFunc(s, func(r rune) bool { return r > 126 }) < 0
		want := plain && slices.ContainsFunc(safeHeads(), func(name string) bool { return strings.EqualFold(name, s) })
		if got := Head(s); got != want {
			t.Errorf("P4.1: Head(%.40q): %v", s, got)
		}
	}
	for _, s := range otherHeads() {
		if Head(s) {
			t.Errorf("P4.1: Head(%.40q)", s)
		}
	}
}

func TestSimpleHeads(t *testing.T) {
	all := safeHeads()
	for i, m := range methods() {
		want := i < 3
		for _, heads := range [][]string{
			nil, {}, {"accept"}, {"Accept-Language"}, {"CONTENT-LANGUAGE"}, {"rAnGe"}, {"range", "accept"}, all,
			{"accept", "accept"}, {"accept", "Accept", "ACCEPT"}, {"range", "accept", "range"}, slices.Repeat(all, 1000),
		} {
			if got := Simple(m, heads...); got != want {
				t.Errorf("P4.1: Simple(%q, %.80q): %v", m, heads, got)
			}
		}
	}
	if !Simple("GET") || !Simple("HEAD", "Range", "accept") || !Simple("POST", "accept", "accept-language", "content-language", "range") {
		t.Error("P4.1: Simple, heads one by one")
	}
}

func TestSimpleOneHeadIsNone(t *testing.T) {
	if Simple("POST", "X-A") {
		t.Error(`P4.1: Simple("POST", "X-A")`)
	}
	for _, m := range methods() {
		for _, other := range otherHeads() {
			if Simple(m, other) || Simple(m, other, other) {
				t.Errorf("P4.1: Simple(%q, %.40q)", m, other)
			}
			for at := range len(safeHeads()) + 1 {
				if heads := slices.Insert(safeHeads(), at, other); Simple(m, heads...) {
					t.Errorf("P4.1: Simple(%q, %.40q as number %d)", m, other, at)
				}
			}
		}
	}
	if Simple("GET", append(slices.Repeat([]string{"accept"}, 1<<16), "x")...) {
		t.Error("P4.1: Simple, the last one of many")
	}
}

func TestHeadsStayAsTheyAre(t *testing.T) {
	room := []string{"Accept", "RANGE", "X-A", "spare"}
	for _, heads := range [][]string{room[:2], room[:3]} {
		Simple("GET", heads...)
	}
	if !slices.Equal(room, []string{"Accept", "RANGE", "X-A", "spare"}) {
		t.Errorf("R4: what was handed in was changed: %q", room)
	}
}

func TestFromSeveralGoroutines(t *testing.T) {
	heads := []string{"Accept", "Range"}
	var group sync.WaitGroup
	for range 8 {
		group.Go(func() {
			for range 200 {
				if !Simple("GET", heads...) || Simple("PUT", heads...) || !Known("PATCH") || Method("PATCH") || !Head("RANGE") || Head("x") {
					t.Error("R5: another answer from several goroutines")
				}
			}
		})
	}
	group.Wait()
}

func FuzzSafe(f *testing.F) {
	for _, m := range append(methods(), "", "get", "GET ", "\xff") {
		for _, h := range append(safeHeads(), "", "X-A", "ACCEPT", "\xff") {
			f.Add(m, h)
		}
	}
	f.Fuzz(func(t *testing.T, m string, h string) {
		at := slices.Index(methods(), m)
		if Known(m) != (at >= 0) || Method(m) != (at >= 0 && at < 3) {
			t.Errorf("P4.1: %q: %v, %v", m, Known(m), Method(m))
		}
		if Simple(m) != Method(m) || Simple(m, h) != (Method(m) && Head(h)) || Simple(m, h, "x") || Simple(m, "accept", h) != Simple(m, h) {
			t.Errorf("P4.1: Simple of %q and %q", m, h)
		}
		if Head(h) != Head(strings.Map(plainUpper, h)) && strings.ToValidUTF8(h, "") == h {
			t.Errorf("P4.1: Head(%q) hangs on how its letters are written", h)
		}
	})
}

func plainUpper(r rune) rune {
	if 'a' <= r && r <= 'z' {
		return r - 'a' + 'A'
	}
	return r
}
