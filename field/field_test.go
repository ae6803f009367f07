package field

import (
	"regexp"
	"slices"
	"strings"
	"sync"
	"testing"
	"unsafe"
)

// marks are the bytes of a name that are neither letters nor digits.
const marks = "!#$%&'*+-.^_|~`"

// nameForm says the chapter's words in another way than the program does.
var nameForm = regexp.MustCompile("^[A-Za-z0-9!#$%&'*+.^_|~`-]{1,40}\\z")

// one is the text of one byte.
func one(c int) string { return string([]byte{byte(c)}) }

// plainLower lowers capitals in another way than Lower does.
func plainLower(s string) string {
	for c := 'A'; c <= 'Z'; c++ {
		s = strings.ReplaceAll(s, string(c), string(c+32))
	}
	return s
}

// plainTrim trims in another way than Trim does.
func plainTrim(s string) string {
	for strings.HasPrefix(s, " ") || strings.HasPrefix(s, "\t") {
		s = s[1:]
	}
	for strings.HasSuffix(s, " ") || strings.HasSuffix(s, "\t") {
		s = s[:len(s)-1]
	}
	return s
}

func plainList(s string) ([]string, bool) {
	var names []string
	for _, piece := range strings.Split(s, ",") {
		piece = plainTrim(piece)
		if piece == "" {
			continue
		}
		if !nameForm.MatchString(piece) {
			return nil, false
		}
		names = append(names, plainLower(piece))
	}
	return names, true
}

func plainPairs(s string) [][2]string {
	var pairs [][2]string
	for _, piece := range strings.Split(s, ";") {
		if plainTrim(piece) == "" {
			continue
		}
		at := strings.IndexByte(piece, '=')
		if at < 0 {
			pairs = append(pairs, [2]string{plainLower(plainTrim(piece)), ""})
			continue
		}
		pairs = append(pairs, [2]string{plainLower(plainTrim(piece[:at])), plainTrim(piece[at+1:])})
	}
	return pairs
}

// allTexts calls f with each text of up to longest of the given bytes.
func allTexts(alphabet string, longest int, f func(string)) {
	texts := []string{""}
	for range longest + 1 {
		var longer []string
		for _, s := range texts {
			f(s)
			for i := range len(alphabet) {
				longer = append(longer, s+alphabet[i:i+1])
			}
		}
		texts = longer
	}
}

// checkAll holds every call against the plain ways.
func checkAll(t *testing.T, s string) {
	t.Helper()
	if got, want := Name(s), nameForm.MatchString(s); got != want {
		t.Errorf("P3.1: Name(%q): %v", s, got)
	}
	if got, want := Lower(s), plainLower(s); got != want {
		t.Errorf("P3.1: Lower(%q): %q, not %q", s, got, want)
	}
	if got, want := Trim(s), plainTrim(s); got != want {
		t.Errorf("P3.1: Trim(%q): %q, not %q", s, got, want)
	}
	got, ok := List(s)
	if want, wantOK := plainList(s); ok != wantOK || !slices.Equal(got, want) {
		t.Errorf("P3.1: List(%q): %q, %v, not %q, %v", s, got, ok, want, wantOK)
	}
	if got, want := Pairs(s), plainPairs(s); !slices.Equal(got, want) {
		t.Errorf("P3.1: Pairs(%q): %q, not %q", s, got, want)
	}
}

func TestNameBytes(t *testing.T) {
	for c := range 256 {
		letter := c >= 'a' && c <= 'z' || c >= 'A' && c <= 'Z'
		want := letter || c >= '0' && c <= '9' || strings.IndexByte(marks, byte(c)) >= 0
		s := one(c)
		for _, text := range []string{s, s + s, s + "x", "x" + s, "x" + s + "y", strings.Repeat(s, 40), strings.Repeat("x", 39) + s} {
			if got := Name(text); got != want {
				t.Errorf("P3.1: Name(%q): %v", text, got)
			}
		}
	}
	for _, s := range []string{"X-Token", "content-type", "42", marks, "A", "a", "z", "Z", "0", "9"} {
		if !Name(s) {
			t.Errorf("P3.1: Name(%q)", s)
		}
	}
	for _, s := range []string{"", " ", "\t", " a", "a ", "a b", "a\tb", "a,b", "a;b", "a=b", "a:b", "a/b", "a@b", "(a)", "[a]", "{a}", "<a>", "a?b", "a\\b", "\"a\"", "a\n", "\na", "a\x00", "\x7f", "\x80", "\xff", "é", "aé", "\u017f", "\u212a"} {
		if Name(s) {
			t.Errorf("P3.1: Name(%q)", s)
		}
	}
}

func TestNameLengths(t *testing.T) {
	for n := range 90 {
		want := n >= 1 && n <= 40
		for _, c := range "xX9-~" {
			s := strings.Repeat(string(c), n)
			if got := Name(s); got != want {
				t.Errorf("P3.1: Name of %d bytes %q: %v", n, c, got)
			}
			if names, ok := List("a," + s); ok != (n <= 40) || ok && len(names) != 1+min(n, 1) || !ok && len(names) != 0 {
				t.Errorf("P3.1: List with %d bytes %q: %q, %v", n, c, names, ok)
			}
		}
	}
	if Name(strings.Repeat("x", 1<<20)) {
		t.Error("P3.1: Name of a million bytes")
	}
}

func TestLower(t *testing.T) {
	for s, want := range map[string]string{
		"":                           "",
		"abc":                        "abc",
		"ABC":                        "abc",
		"X-Token":                    "x-token",
		"ABCDEFGHIJKLMNOPQRSTUVWXYZ": "abcdefghijklmnopqrstuvwxyz",
		"abcdefghijklmnopqrstuvwxyz": "abcdefghijklmnopqrstuvwxyz",
		"@AZ[`az{":                   "@az[`az{",
		" A\tB\n\x00C":               " a\tb\n\x00c",
		"ÉA":                         "Éa",
		"\u212aK\u0130I":             "\u212ak\u0130i",
		"A\xffB\xc0\x80":             "a\xffb\xc0\x80",
	} {
		if got := Lower(s); got != want {
			t.Errorf("P3.1: Lower(%q): %q", s, got)
		}
	}
	for c := range 256 {
		want := byte(c)
		if c >= 'A' && c <= 'Z' {
			want += 'a' - 'A'
		}
		if got := Lower(one(c)); got != string([]byte{want}) {
			t.Errorf("P3.1: Lower(%q): %q", one(c), got)
		}
		if got := Lower("A" + one(c) + "z"); got != "a"+string([]byte{want})+"z" {
			t.Errorf("P3.1: Lower of A, %q, z: %q", one(c), got)
		}
	}
	if s := strings.Repeat("Ab-É\xff", 1000); Lower(s) != plainLower(s) {
		t.Error("P3.1: Lower of a long text")
	}
}

func TestTrim(t *testing.T) {
	for s, want := range map[string]string{
		"":              "",
		" ":             "",
		"\t":            "",
		" \t \t\t  ":    "",
		"a":             "a",
		" a":            "a",
		"a ":            "a",
		"\ta":           "a",
		"a\t":           "a",
		" a ":           "a",
		"\t a \t":       "a",
		"a b":           "a b",
		"a \t b":        "a \t b",
		"  a \t b\t ":   "a \t b",
		"A":             "A",
		"\na\n":         "\na\n",
		" \na\r ":       "\na\r",
		"\ra":           "\ra",
		"\va\f":         "\va\f",
		"\x00 a \x00":   "\x00 a \x00",
		"\u00a0a\u00a0": "\u00a0a\u00a0",
		"\u2003a":       "\u2003a",
		" \xff ":        "\xff",
		"\xa0 ":         "\xa0",
	} {
		if got := Trim(s); got != want {
			t.Errorf("P3.1: Trim(%q): %q", s, got)
		}
	}
	for c := range 256 {
		want := one(c)
		if c == ' ' || c == '\t' {
			want = ""
		}
		for _, ends := range [][2]string{{"", ""}, {" ", ""}, {"", " "}, {"\t", ""}, {"", "\t"}, {"\t ", " \t"}} {
			if got := Trim(ends[0] + one(c) + ends[1]); got != want {
				t.Errorf("P3.1: Trim of %q between %q: %q", one(c), ends, got)
			}
		}
	}
}

func TestList(t *testing.T) {
	for _, x := range []struct {
		s    string
		want []string
	}{
		{"X-A, b,", []string{"x-a", "b"}},
		{"a", []string{"a"}},
		{"A", []string{"a"}},
		{"a,b,c", []string{"a", "b", "c"}},
		{"c,b,a", []string{"c", "b", "a"}},
		{"a,A,a", []string{"a", "a", "a"}},
		{" a ,\tB\t, \t c \t", []string{"a", "b", "c"}},
		{",a", []string{"a"}},
		{"a,", []string{"a"}},
		{",a,", []string{"a"}},
		{",,a,,b,,", []string{"a", "b"}},
		{" , a,\t,b ,\t ", []string{"a", "b"}},
		{"", nil}, {" ", nil}, {"\t", nil}, {",", nil}, {",,,", nil}, {" , ,\t", nil},
		{"*", []string{"*"}},
		{marks + ", X1", []string{marks, "x1"}},
		{strings.Repeat("X", 40) + ",y", []string{strings.Repeat("x", 40), "y"}},
		{"  " + strings.Repeat("X", 40) + "\t\t", []string{strings.Repeat("x", 40)}},
	} {
		if got, ok := List(x.s); !ok || !slices.Equal(got, x.want) {
			t.Errorf("P3.1: List(%q): %q, %v", x.s, got, ok)
		}
	}
}

func TestListOfNoNames(t *testing.T) {
	for _, s := range []string{
		"a b", "a\tb", "a,b c", "a b,c", "(", "a,(", "(,a", "a,(,b", "a;b", "a=b", "a:b", "a/b", "\"a\"", "a\n", "\na", "a,\n", "\r", "\x00", "a,\x00,b", "é", "a,é", "\xff", "a\x7f", "\u00a0", "a,\u00a0",
		strings.Repeat("x", 41), "a," + strings.Repeat("x", 41), strings.Repeat("x", 41) + ",a", strings.Repeat("a,", 1000) + "(",
	} {
		if got, ok := List(s); ok || len(got) != 0 {
			t.Errorf("P3.1: List(%.60q): %q, %v", s, got, ok)
		}
	}
	for c := range 256 {
		name := nameForm.MatchString(one(c))
		left := strings.IndexByte(" \t,", byte(c)) >= 0
		if _, ok := List("a," + one(c) + ",b"); ok != (name || left) {
			t.Errorf("P3.1: List with %q: %v", one(c), ok)
		}
	}
}

func TestPairs(t *testing.T) {
	for _, x := range []struct {
		s    string
		want [][2]string
	}{
		{"Path = /a ; Secure;;  ", [][2]string{{"path", "/a"}, {"secure", ""}}},
		{"a=b", [][2]string{{"a", "b"}}},
		{"A=B", [][2]string{{"a", "B"}}},
		{"a", [][2]string{{"a", ""}}},
		{"A", [][2]string{{"a", ""}}},
		{"a=", [][2]string{{"a", ""}}},
		{"=b", [][2]string{{"", "b"}}},
		{"=", [][2]string{{"", ""}}},
		{" \t= ", [][2]string{{"", ""}}},
		{"==", [][2]string{{"", "="}}},
		{"a=b=c", [][2]string{{"a", "b=c"}}},
		{"a = b = c ", [][2]string{{"a", "b = c"}}},
		{"a==b", [][2]string{{"a", "=b"}}},
		{"a=b=", [][2]string{{"a", "b="}}},
		{"a=B;a=C;A", [][2]string{{"a", "B"}, {"a", "C"}, {"a", ""}}},
		{"b=1;a=2", [][2]string{{"b", "1"}, {"a", "2"}}},
		{"a b\t= c d", [][2]string{{"a b", "c d"}}},
		{"\t A \t=\t B \t;\t C \t", [][2]string{{"a", "B"}, {"c", ""}}},
		{"a;;b", [][2]string{{"a", ""}, {"b", ""}}},
		{";a=b;", [][2]string{{"a", "b"}}},
		{";;;a;;;", [][2]string{{"a", ""}}},
		{" ; a ;\t; b=c ;\t", [][2]string{{"a", ""}, {"b", "c"}}},
		{"", nil}, {" ", nil}, {"\t \t", nil}, {";", nil}, {";;", nil}, {" ; ;\t", nil},
		{"a,b=c,d", [][2]string{{"a,b", "c,d"}}},
		{"(A)=\"x\"", [][2]string{{"(a)", "\"x\""}}},
		{"\n=\r", [][2]string{{"\n", "\r"}}},
		{"É\xff=É\xff\x00", [][2]string{{"É\xff", "É\xff\x00"}}},
		{strings.Repeat("X", 41) + "=" + strings.Repeat("Y", 500), [][2]string{{strings.Repeat("x", 41), strings.Repeat("Y", 500)}}},
	} {
		if got := Pairs(x.s); !slices.Equal(got, x.want) {
			t.Errorf("P3.1: Pairs(%q): %q", x.s, got)
		}
	}
}

func TestAllShortTexts(t *testing.T) {
	allTexts("aZ ,(", 5, func(s string) { checkAll(t, s) })
	allTexts("aZ\t;=", 5, func(s string) { checkAll(t, s) })
	allTexts("B \t\n\xff", 4, func(s string) { checkAll(t, s) })
	for c := range 256 {
		for d := range 256 {
			checkAll(t, one(c)+one(d))
		}
	}
}

func TestLongTexts(t *testing.T) {
	const many = 1 << 17
	for _, s := range []string{strings.Repeat(",", many), strings.Repeat(";", many), strings.Repeat("A,", many), strings.Repeat("A=B;", many), strings.Repeat("=", many), strings.Repeat(" ", many), strings.Repeat("\xff", many)} {
		checkAll(t, s)
	}
}

// overlaps tells whether a piece lies within the memory of s.
func overlaps(s string, piece string) bool {
	if s == "" || piece == "" {
		return false
	}
	from, at := uintptr(unsafe.Pointer(unsafe.StringData(s))), uintptr(unsafe.Pointer(unsafe.StringData(piece)))
	return at < from+uintptr(len(s)) && from < at+uintptr(len(piece))
}

func TestAnswersAreNew(t *testing.T) {
	s := strings.Clone("name-one,name-two")
	names, _ := List(s)
	p := strings.Clone("key=value;other")
	pairs := Pairs(p)
	texts := append([]string{Lower(s), Trim(s)}, names...)
	for _, pair := range pairs {
		if overlaps(p, pair[0]) || overlaps(p, pair[1]) {
			t.Errorf("R4: Pairs shares %q with its argument", pair)
		}
	}
	for i, text := range texts {
		if overlaps(s, text) {
			t.Errorf("R4: an answer shares %q with its argument", text)
		}
		for _, other := range texts[:i] {
			if overlaps(text, other) {
				t.Errorf("R4: two answers share %q", text)
			}
		}
	}
	names[0], pairs[0] = "x", [2]string{"x", "x"}
	if again, _ := List(s); !slices.Equal(again, []string{"name-one", "name-two"}) {
		t.Error("R4: two answers of List share memory")
	}
	if !slices.Equal(Pairs(p), [][2]string{{"key", "value"}, {"other", ""}}) {
		t.Error("R4: two answers of Pairs share memory")
	}
}

func TestFromSeveralGoroutines(t *testing.T) {
	var group sync.WaitGroup
	for range 8 {
		group.Go(func() {
			for range 200 {
				names, ok := List("X-A, b,")
				if !ok || !slices.Equal(names, []string{"x-a", "b"}) || !slices.Equal(Pairs("A=b;C"), [][2]string{{"a", "b"}, {"c", ""}}) || !Name("x") || Lower("X") != "x" || Trim(" x ") != "x" {
					t.Error("R5: another answer from several goroutines")
				}
			}
		})
	}
	group.Wait()
}

func FuzzFields(f *testing.F) {
	for _, s := range []string{"", "X-A, b,", "Path = /a ; Secure;;  ", "a=b=c", " \t", "é,\xff", marks} {
		f.Add(s)
	}
	f.Fuzz(func(t *testing.T, s string) { checkAll(t, s) })
}
