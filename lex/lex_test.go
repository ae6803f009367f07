package lex

import (
	"regexp"
	"slices"
	"strings"
	"sync"
	"testing"
	"unsafe"

	"moat/api"
)

// These say in another way than the program does what stands between tokens, and what tokens are.
var (
	gapForm   = regexp.MustCompile(`^(?:[ \t\n\r]|#[^\n]*)+`)
	nameForm  = regexp.MustCompile(`^[a-z][a-z0-9_]*`)
	capsForm  = regexp.MustCompile(`^[A-Z]+`)
	textForm  = regexp.MustCompile(`^"[ !#-~]*"`)
	signForm  = regexp.MustCompile(`^[{}();=]`)
	goodStart = regexp.MustCompile(`^[a-zA-Z{}();=]$`)
)

// allWords are the words as the chapter lists them.
const allWords = "origin cookie secret endpoint property network at page inject script needs header own sets gives changes redirect open cors any credentials allow methods csp and or not changed forged knows stolen ran"

func words() []string { return strings.Fields(allWords) }

// plainToken is the token at the beginning of s, how many bytes it has, and how many it may have; no bytes, if there is none.
func plainToken(s string) (api.Token, int, int) {
	if part := nameForm.FindString(s); part != "" {
		kind := api.TokName
		if slices.Contains(words(), part) {
			kind = api.TokWord
		}
		return api.Token{Kind: kind, Text: part}, len(part), api.MaxName
	}
	if part := capsForm.FindString(s); part != "" {
		return api.Token{Kind: api.TokCaps, Text: part}, len(part), api.MaxName
	}
	if part := textForm.FindString(s); part != "" {
		return api.Token{Kind: api.TokText, Text: strings.Trim(part, "\"")}, len(part), api.MaxString + 2
	}
	part := signForm.FindString(s)
	return api.Token{Kind: api.TokSign, Text: part}, len(part), 1
}

// plainTokens is Tokens, said in another way.
func plainTokens(s string) ([]api.Token, api.Wrong) {
	if len(s) > api.MaxText {
		return nil, api.Wrong{Code: api.ErrLong}
	}
	var tokens []api.Token
	for rest := s; ; {
		rest = rest[len(gapForm.FindString(rest)):]
		at := len(s) - len(rest)
		if rest == "" {
			return tokens, api.Wrong{}
		}
		token, size, most := plainToken(rest)
		if size == 0 {
			return nil, api.Wrong{Code: api.ErrChar, At: at}
		}
		if size > most || len(tokens) == api.MaxTokens {
			return nil, api.Wrong{Code: api.ErrLong, At: at}
		}
		token.At = at
		tokens, rest = append(tokens, token), rest[size:]
	}
}

// checkTokens holds Tokens against plainTokens.
func checkTokens(t *testing.T, s string) {
	t.Helper()
	want, wrong := plainTokens(s)
	if got, w := Tokens(s); w != wrong || !slices.Equal(got, want) {
		t.Errorf("P9.1: Tokens(%.80q): %v, %v; wanted %v, %v", s, got, w, want, wrong)
	}
}

func mustTokens(t *testing.T, s string, want ...api.Token) {
	t.Helper()
	if got, w := Tokens(s); w != (api.Wrong{}) || !slices.Equal(got, want) {
		t.Errorf("P9.1: Tokens(%.80q): %v, %v; wanted %v", s, got, w, want)
	}
}

func mustFail(t *testing.T, s string, code api.Errno, at int) {
	t.Helper()
	if got, w := Tokens(s); w != (api.Wrong{Code: code, At: at}) || len(got) != 0 {
		t.Errorf("P9.1: Tokens(%.80q): %v, %v; wanted %d at %d", s, got, w, code, at)
	}
}

func token(kind int, at int, text string) api.Token {
	return api.Token{Kind: kind, At: at, Text: text}
}

func name(at int, text string) api.Token { return token(api.TokName, at, text) }

func word(at int, text string) api.Token { return token(api.TokWord, at, text) }

func caps(at int, text string) api.Token { return token(api.TokCaps, at, text) }

func text(at int, text string) api.Token { return token(api.TokText, at, text) }

func sign(at int, text string) api.Token { return token(api.TokSign, at, text) }

func TestTokensOfADescription(t *testing.T) {
	const s = "# a shop\norigin shop \"https://a.test\";\ncookie sid at shop \"Secure; Path=/\"; # its \"own\r\n\tendpoint buy at shop POST \"/buy\" {\n own; needs sid;\r\n}property p=not(forged buy);#end"
	mustTokens(t, s,
		word(9, "origin"), name(16, "shop"), text(21, "https://a.test"), sign(37, ";"),
		word(39, "cookie"), name(46, "sid"), word(50, "at"), name(53, "shop"), text(58, "Secure; Path=/"), sign(74, ";"),
		word(89, "endpoint"), name(98, "buy"), word(102, "at"), name(105, "shop"), caps(110, "POST"), text(115, "/buy"), sign(122, "{"),
		word(125, "own"), sign(128, ";"), word(130, "needs"), name(136, "sid"), sign(139, ";"), sign(142, "}"),
		word(143, "property"), name(152, "p"), sign(153, "="), word(154, "not"), sign(157, "("), word(158, "forged"), name(165, "buy"), sign(168, ")"), sign(169, ";"))
	mustTokens(t, "own x;", word(0, "own"), name(4, "x"), sign(5, ";"))
	checkTokens(t, s)
	for n := range len(s) {
		checkTokens(t, s[:n])
		checkTokens(t, s[n:])
		for c := range 256 {
			checkTokens(t, s[:n]+string([]byte{byte(c)})+s[n:])
		}
	}
}

func TestTokensOfNothing(t *testing.T) {
	for _, s := range []string{
		"", " ", "\t", "\n", "\r", "  ", "\r\n", " \t\r\n \t\r\n", strings.Repeat(" ", api.MaxText), strings.Repeat("\n", api.MaxText),
		"#", "##", "#\n", "#\r", "#\n#", "#\n#\n", "# own x;", "#own\n", " # \"", "#\"\"", "#@\x00\x1f\x7f\x80\xff\n", "# \u00e9", "#\r own x;", "#\ta 9\r@", "#{}();=", strings.Repeat("#", api.MaxText), "#" + strings.Repeat("a", api.MaxText-1), strings.Repeat("#\n", api.MaxText/2), "# " + strings.Repeat("; ", api.MaxTokens+1),
	} {
		mustTokens(t, s)
	}
}

func TestGaps(t *testing.T) {
	for _, gap := range []string{" ", "\t", "\n", "\r", "  ", "\r\n", "\n\r", " \t\r\n", "#\n", "# x\n", "#\r\n", "#\"\n", "#\" \"\n", "##\n", "# #\n#\n", " # { ; \r @ \n\t", "#\x00\xff\n", "#\r#\r\n"} {
		mustTokens(t, "a"+gap+"b", name(0, "a"), name(1+len(gap), "b"))
		mustTokens(t, gap+"own"+gap+"GET"+gap, word(len(gap), "own"), caps(2*len(gap)+3, "GET"))
		mustTokens(t, ";"+gap+"\"\"", sign(0, ";"), text(1+len(gap), ""))
		mustFail(t, "a"+gap+"9", api.ErrChar, 1+len(gap))
	}
	mustTokens(t, "a#b\nc", name(0, "a"), name(4, "c"))
	mustTokens(t, "a;#b", name(0, "a"), sign(1, ";"))
	mustTokens(t, "\"a # b\"#c\nd", text(0, "a # b"), name(10, "d"))
	mustTokens(t, "# a\rb\nc", name(6, "c"))
	mustTokens(t, "\"#\"", text(0, "#"))
	for c := range 256 {
		b := string([]byte{byte(c)})
		if strings.Contains(" \t\n\r", b) {
			mustTokens(t, "a"+b+"b", name(0, "a"), name(2, "b"))
		}
		if b != "\n" {
			mustTokens(t, "a#"+b+"b\nc", name(0, "a"), name(5, "c"))
		}
	}
	for _, other := range []string{"\v", "\f", "\x00", "\x1b", "\x85", "\xa0", "\u00a0", "\u2028", "\ufeff", "//", "/*", "--", ","} {
		mustFail(t, other, api.ErrChar, 0)
		mustFail(t, "a"+other+"b", api.ErrChar, 1)
	}
}

func TestWords(t *testing.T) {
	if len(words()) != 32 {
		t.Fatalf("%d words", len(words()))
	}
	for _, s := range words() {
		if !Word(s) {
			t.Errorf("P9.1: not Word(%q)", s)
		}
		mustTokens(t, s, word(0, s))
		mustTokens(t, " "+s+"\t"+s+";", word(1, s), word(2+len(s), s), sign(2+2*len(s), ";"))
		mustTokens(t, s+"GET", word(0, s), caps(len(s), "GET"))
		for _, other := range []string{s + "x", s + "_", s + "0", s + "s", s + s, s[:1] + s, s[:len(s)-1], "x" + s, s + "9_"} {
			if slices.Contains(words(), other) {
				continue
			}
			if Word(other) {
				t.Errorf("P9.1: Word(%q)", other)
			}
			if len(other) > api.MaxName {
				mustFail(t, other, api.ErrLong, 0)
			} else {
				mustTokens(t, other, name(0, other))
			}
		}
		if less := s[1:]; Word(less) != slices.Contains(words(), less) {
			t.Errorf("P9.1: Word(%q): %v", less, Word(less))
		}
		for _, other := range []string{strings.ToUpper(s), strings.ToUpper(s[:1]) + s[1:], s + " ", " " + s, "\"" + s + "\"", s + "\n", s + "\x00", "\x00" + s, s + ";", "#" + s, "_" + s, s + "\xff"} {
			if Word(other) {
				t.Errorf("P9.1: Word(%q)", other)
			}
		}
		mustTokens(t, strings.ToUpper(s), caps(0, strings.ToUpper(s)))
		mustTokens(t, "\""+s+"\"", text(0, s))
	}
	for _, s := range []string{"", " ", "a", "x", "evil", "user", "and or", "origins", "get", "true", "self", "none", "\x00", "\xff", allWords, strings.Repeat("a", 1<<20), strings.Repeat("own", 1<<16)} {
		if Word(s) {
			t.Errorf("P9.1: Word(%.80q)", s)
		}
	}
}

func TestWordOfShortTexts(t *testing.T) {
	parts := []string{"a", "n", "y", "d", "o", "r", "t", "c", "s", "p", "w", "A", "_", "0", " "}
	texts := []string{""}
	for range 4 {
		var longer []string
		for _, s := range texts {
			if Word(s) != slices.Contains(words(), s) {
				t.Errorf("P9.1: Word(%q): %v", s, Word(s))
			}
			for _, part := range parts {
				longer = append(longer, s+part)
			}
		}
		texts = longer
	}
}

func TestNamesAndCapitals(t *testing.T) {
	for _, s := range []string{"a", "z", "x9", "a_", "a__b", "a0_1z", "evil", "z9_", "x_9", "ownx", "a" + strings.Repeat("_", api.MaxName-1)} {
		mustTokens(t, s, name(0, s))
		mustTokens(t, "("+s+")", sign(0, "("), name(1, s), sign(1+len(s), ")"))
	}
	for _, s := range []string{"A", "Z", "GET", "AZ", "OWN", "EVIL", strings.Repeat("Q", api.MaxName)} {
		mustTokens(t, s, caps(0, s))
		mustTokens(t, "{"+s+"}", sign(0, "{"), caps(1, s), sign(1+len(s), "}"))
		mustTokens(t, s+"a", caps(0, s), name(len(s), "a"))
		mustTokens(t, "a"+s, name(0, "a"), caps(1, s))
	}
	mustTokens(t, "GETab", caps(0, "GET"), name(3, "ab"))
	mustTokens(t, "abGET", name(0, "ab"), caps(2, "GET"))
	mustTokens(t, "aBcD", name(0, "a"), caps(1, "B"), name(2, "c"), caps(3, "D"))
	mustTokens(t, "ownGETown", word(0, "own"), caps(3, "GET"), word(6, "own"))
	mustTokens(t, "a_B", name(0, "a_"), caps(2, "B"))
	mustFail(t, "A_", api.ErrChar, 1)
	mustFail(t, "A9", api.ErrChar, 1)
	mustFail(t, "GET9a", api.ErrChar, 3)
	for _, s := range []string{"a-b", "a.b", "a:b", "a\xe9", "a\x00", "a/b", "a'", "a@", "a[", "a`", "a|", "a~", "a\x7f"} {
		mustFail(t, s, api.ErrChar, 1)
		mustFail(t, strings.ToUpper(s), api.ErrChar, 1)
	}
}

func TestSigns(t *testing.T) {
	for _, s := range []string{"{", "}", "(", ")", ";", "="} {
		mustTokens(t, s, sign(0, s))
		mustTokens(t, s+s, sign(0, s), sign(1, s))
		mustTokens(t, "a"+s+"GET"+s+"\"\""+s, name(0, "a"), sign(1, s), caps(2, "GET"), sign(5, s), text(6, ""), sign(8, s))
	}
	mustTokens(t, "=={}();", sign(0, "="), sign(1, "="), sign(2, "{"), sign(3, "}"), sign(4, "("), sign(5, ")"), sign(6, ";"))
}

func TestTexts(t *testing.T) {
	for _, s := range []string{"", " ", "  ", "a", "a b", "#", "# x", "'", "\\", "\\n", "~", "!", ";", "{}();=", "GET", "own", "9", "https://a.test:443/", strings.Repeat(" ", api.MaxString), strings.Repeat("~", api.MaxString)} {
		mustTokens(t, "\""+s+"\"", text(0, s))
		mustTokens(t, " \""+s+"\"\""+s+"\"a", text(1, s), text(3+len(s), s), name(5+2*len(s), "a"))
	}
	for c := range 256 {
		b := string([]byte{byte(c)})
		for _, s := range []string{b, "a" + b, b + "a", "a" + b + "a", strings.Repeat("a", api.MaxString-1) + b} {
			switch {
			case b == "\"":
				checkTokens(t, "\""+s+"\"")
			case 32 <= c && c <= 126:
				mustTokens(t, "\""+s+"\"", text(0, s))
			default:
				mustFail(t, "\""+s+"\"", api.ErrChar, 0)
				mustFail(t, "a; \""+s+"\" 9", api.ErrChar, 3)
			}
		}
	}
	for _, s := range []string{"\"", "\"a", "\"a b", "\"\n\"", "\"a\nb\"", "\"a\r\"", "\"a\tb\"", "\"\u00e9\"", "\"\x00\"", "\"\x1f\"", "\"\x7f\"", "\"\x80\"", "\"\xff\"", "\" \xa0\"", "\"#\n\"", "\"'", "\"own x;", "\"" + strings.Repeat("a", api.MaxText-1)} {
		mustFail(t, s, api.ErrChar, 0)
		if len(s) < api.MaxText-1 {
			mustFail(t, "x "+s, api.ErrChar, 2)
		}
	}
	mustFail(t, "\"\"\"", api.ErrChar, 2)
	mustFail(t, "\"a\\\"b\"", api.ErrChar, 5)
	mustTokens(t, "\"\"\"\"", text(0, ""), text(2, ""))
	mustTokens(t, "#\"\n\"a\"", text(3, "a"))
}

func TestBytesThatBeginNoToken(t *testing.T) {
	for c := range 256 {
		b := string([]byte{byte(c)})
		if goodStart.MatchString(b) || strings.Contains(" \t\n\r#", b) {
			if _, w := Tokens(b); w != (api.Wrong{}) {
				t.Errorf("P9.1: Tokens(%q): %v", b, w)
			}
			continue
		}
		mustFail(t, b, api.ErrChar, 0)
		mustFail(t, "own "+b, api.ErrChar, 4)
		mustFail(t, "\n;"+b+"9", api.ErrChar, 2)
		mustFail(t, "GET "+b+" @", api.ErrChar, 4)
	}
	for _, s := range []string{"9", "0a", "_", "_a", "-", ",", ".", ":", "/", "[", "]", "<", ">", "!", "$", "%", "&", "*", "+", "?", "@", "\\", "^", "`", "|", "~", "'a'", "\u00e9", "\xff\xfe", "\x00a", "\ufeffown x;"} {
		mustFail(t, s, api.ErrChar, 0)
	}
}

func TestLongTokens(t *testing.T) {
	for _, letter := range []string{"a", "A"} {
		most := strings.Repeat(letter, api.MaxName)
		mustFail(t, most+letter, api.ErrLong, 0)
		mustFail(t, "x "+most+letter+";", api.ErrLong, 2)
		mustFail(t, "x "+strings.Repeat(most, 20), api.ErrLong, 2)
		checkTokens(t, most)
		checkTokens(t, ";"+most+";"+most)
	}
	longName, longCaps := strings.Repeat("n", api.MaxName), strings.Repeat("N", api.MaxName)
	mustTokens(t, longName+longCaps+longName, name(0, longName), caps(api.MaxName, longCaps), name(2*api.MaxName, longName))
	mustTokens(t, "n"+strings.Repeat("9", api.MaxName-1), name(0, "n"+strings.Repeat("9", api.MaxName-1)))
	mustFail(t, "n"+strings.Repeat("9", api.MaxName), api.ErrLong, 0)
	mustFail(t, "n"+strings.Repeat("_", api.MaxName), api.ErrLong, 0)
	mustFail(t, strings.Repeat("own", 7), api.ErrLong, 0)
	most := strings.Repeat(" ", api.MaxString)
	mustTokens(t, "\""+most+"\"", text(0, most))
	mustFail(t, "\""+most+" \"", api.ErrLong, 0)
	mustFail(t, "x=\""+most+" \"", api.ErrLong, 2)
	mustFail(t, "\""+strings.Repeat("a", api.MaxText-2)+"\"", api.ErrLong, 0)
	for _, open := range []string{"\"" + most, "\"" + most + most, "\"" + most + most + "\n\"", "\"" + most + " \x7f\""} {
		mustFail(t, open, api.ErrChar, 0)
		mustFail(t, "own "+open, api.ErrChar, 4)
	}
}

func TestManyTokens(t *testing.T) {
	for _, one := range []string{";", "{}", "=\"\"", "a ", "A\n", "a;#\n", "own;"} {
		tokens, _ := plainTokens(one)
		many := strings.Repeat(one, api.MaxTokens/len(tokens))
		if len(many) > api.MaxText-30 {
			t.Fatalf("%q is too long", one)
		}
		if got, w := Tokens(many); w != (api.Wrong{}) || len(got) != api.MaxTokens {
			t.Errorf("P9.1: %d tokens of many %q, %v", len(got), one, w)
		}
		checkTokens(t, many)
		checkTokens(t, many+" # and so on; \"")
		for _, more := range []string{";", "a", "own", "A", "\"\"", "\"a\"", strings.Repeat("x", api.MaxName+1), "; 9", "a \""} {
			mustFail(t, many+" "+more, api.ErrLong, len(many)+1)
		}
		for _, none := range []string{"-", "9", "_", "\"", "\"a\n\"", "\x00", "\xff", "\" ; ;"} {
			mustFail(t, many+none, api.ErrChar, len(many))
			mustFail(t, many+"\n\t"+none, api.ErrChar, len(many)+2)
		}
		mustFail(t, "9"+many+";", api.ErrChar, 0)
		mustFail(t, many+";9", api.ErrLong, len(many))
	}
	mustFail(t, strings.Repeat(";", api.MaxText), api.ErrLong, api.MaxTokens)
	mustTokens(t, strings.Repeat(" ", api.MaxText-1)+";", sign(api.MaxText-1, ";"))
}

func TestLongDescriptions(t *testing.T) {
	for _, part := range []string{" ", "\n", "#", "@", ";", "a", "\"", "\xff", "9", "a ", "\"a\"", "own x;\n", "# x\n"} {
		long := strings.Repeat(part, api.MaxText)
		checkTokens(t, long[:api.MaxText])
		checkTokens(t, long[:api.MaxText-1])
		mustFail(t, long[:api.MaxText-1]+"  ", api.ErrLong, 0)
		mustFail(t, "@"+long[:api.MaxText], api.ErrLong, 0)
		mustFail(t, strings.Repeat(part, 1<<20), api.ErrLong, 0)
	}
}

func TestTheFirstWrongIsTold(t *testing.T) {
	longName, longText := strings.Repeat("n", api.MaxName+1), "\""+strings.Repeat("t", api.MaxString+1)+"\""
	mustFail(t, longName+" @", api.ErrLong, 0)
	mustFail(t, "@ "+longName, api.ErrChar, 0)
	mustFail(t, longText+"@", api.ErrLong, 0)
	mustFail(t, "@"+longText, api.ErrChar, 0)
	mustFail(t, longName+"\"", api.ErrLong, 0)
	mustFail(t, "\" "+longName, api.ErrChar, 0)
	mustFail(t, longName+"-", api.ErrLong, 0)
	mustFail(t, ";"+longText+longName, api.ErrLong, 1)
	mustFail(t, "# @ \" "+longName+"\n  9 @", api.ErrChar, 30)
	mustFail(t, longName+" "+strings.Repeat(";", api.MaxTokens+1), api.ErrLong, 0)
	mustFail(t, strings.Repeat(";", api.MaxTokens-1)+longName+"@", api.ErrLong, api.MaxTokens-1)
}

func TestTokensOfShortTexts(t *testing.T) {
	parts := []string{"a", "or", "_", "9", "A", "\"", " ", "\n", "\r", "#", ";", "=", "-", "\x7f"}
	texts := []string{""}
	for range 5 {
		var longer []string
		for _, s := range texts {
			checkTokens(t, s)
			for _, part := range parts {
				longer = append(longer, s+part)
			}
		}
		texts = longer
	}
}

// overlaps tells whether a piece lies within the memory of s.
func overlaps(s string, piece string) bool {
	if s == "" || piece == "" {
		return false
	}
	from, to := uintptr(unsafe.Pointer(unsafe.StringData(s))), uintptr(unsafe.Pointer(unsafe.StringData(piece)))
	return to < from+uintptr(len(s)) && from < to+uintptr(len(piece))
}

func TestAnswersAreNew(t *testing.T) {
	s := strings.Clone("own x GET \"a b\" {};=\"\"()")
	first, _ := Tokens(s)
	second, _ := Tokens(s)
	for i, token := range first {
		if overlaps(s, token.Text) {
			t.Errorf("R4: %v shares memory with the description", token)
		}
		for _, other := range second {
			if overlaps(other.Text, token.Text) {
				t.Errorf("R4: %v shares memory with another answer", token)
			}
		}
		first[i] = api.Token{}
	}
	checkTokens(t, s)
	if want, _ := plainTokens(s); !slices.Equal(second, want) {
		t.Errorf("R4: %v, where another answer was changed", second)
	}
}

func TestFromSeveralGoroutines(t *testing.T) {
	const s = "own x GET \"a b\"; # c"
	want, _ := plainTokens(s)
	var group sync.WaitGroup
	for range 8 {
		group.Go(func() {
			for range 200 {
				got, w := Tokens(s)
				none, bad := Tokens("own 9")
				if w.Code != api.OK || !slices.Equal(got, want) || none != nil || bad != (api.Wrong{Code: api.ErrChar, At: 4}) || !Word("ran") || Word("run") {
					t.Error("R5: another answer from several goroutines")
				}
			}
		})
	}
	group.Wait()
}

func FuzzTokens(f *testing.F) {
	for _, s := range []string{"", "own x;", "# c\r\n\"a b\"GETab_9", "\"\x7f\"", "a 9", strings.Repeat(";", api.MaxTokens) + "a", strings.Repeat("n", api.MaxName+1), "\"" + strings.Repeat(" ", api.MaxString+1) + "\""} {
		f.Add(s)
	}
	f.Fuzz(func(t *testing.T, s string) {
		checkTokens(t, s)
		if Word(s) != slices.Contains(words(), s) {
			t.Errorf("P9.1: Word(%q): %v", s, Word(s))
		}
	})
}
