package wf

import (
	"math/rand"
	"slices"
	"strings"
	"sync"
	"testing"
	"unsafe"

	"moat/api"
	"moat/lex"
	"moat/syn"
)

// put is a description in which another token stands from a place on.
func put(s string, token api.Token, other string) string {
	size := len(token.Text)
	if token.Kind == api.TokText {
		size += 2
	}
	return s[:token.At] + other + s[token.At+size:]
}

// others are what may stand in a token's place without another tree; of a formula's words and single attributes too.
func others(token api.Token) []string {
	alone := []string{"page", "inject", "own", "changes", "open", "credentials"}
	named := []string{"script", "needs", "sets", "gives", "redirect", "cors"}
	texts := []string{"header", "allow", "methods", "csp"}
	formulas := []string{"changed", "forged", "knows", "stolen", "ran"}
	switch token.Kind {
	case api.TokName:
		return []string{"shop", "other", "sid", "lang", "card", "pin", "buy", "back", "lost", "never", "evil", "nobody"}
	case api.TokCaps:
		return []string{"GET", "HEAD", "PATCH", "GETS", "X"}
	case api.TokText:
		return []string{`""`, `" "`, `"/"`, `"x"`, `"X"`, `"x-A"`, `"x y"`, `"GET"`, `"GET,, PUT"`, `"get"`, `"Secure"`, `"Domain=b.test"`, `"SameSite=None"`, `"Path=/; Path=/"`, `"https://a.test:8443"`, `"http://b.test:80"`, `"https://x.evil.test"`, `"https://a.test"`, `"http://a.test"`, `"https://b.test"`}
	}
	for _, words := range [][]string{alone, named, texts, formulas} {
		if slices.Contains(words, token.Text) {
			return words
		}
	}
	return nil
}

func TestOneTokenChanged(t *testing.T) {
	tokens, _ := lex.Tokens(full)
	codes := map[api.Errno]int{}
	for _, token := range tokens {
		for _, other := range others(token) {
			s := put(full, token, other)
			check(t, s)
			check(t, "network;"+s)
			check(t, names+s)
			codes[Check(s).Code]++
		}
	}
	for _, code := range []api.Errno{api.OK, api.ErrTwice, api.ErrName, api.ErrKind, api.ErrForm} {
		if codes[code] < 10 {
			t.Errorf("too few of code %d: %v", code, codes)
		}
	}
}

// shuffled is full with some tokens changed, with items and attributes moved, doubled, left out.
func shuffled(random *rand.Rand) string {
	s := full
	for range random.Intn(3) {
		tokens, _ := lex.Tokens(s)
		token := tokens[random.Intn(len(tokens))]
		if choice := others(token); choice != nil {
			s = put(s, token, choice[random.Intn(len(choice))])
		}
	}
	starts, _ := syn.Items(s)
	var items []string
	for i, start := range starts {
		items = append(items, s[start:append(starts[1:], len(s))[i]])
	}
	for i, item := range items {
		items[i] = moved(random, item)
	}
	if random.Intn(2) == 0 {
		random.Shuffle(len(items), func(i, j int) { items[i], items[j] = items[j], items[i] })
	}
	return strings.Join(jumbled(random, items), "\n")
}

// moved is an item with its attributes jumbled, if it is an endpoint.
func moved(random *rand.Rand, item string) string {
	head, rest, found := strings.Cut(item, "{")
	inner, behind, _ := strings.Cut(rest, "}")
	if !found || random.Intn(2) == 0 {
		return item
	}
	attributes := strings.SplitAfter(inner, ";")
	last := len(attributes) - 1
	return head + "{" + strings.Join(jumbled(random, attributes[:last]), "") + attributes[last] + "}" + behind
}

// jumbled is a list with one of its pieces doubled, or left out, or moved to the end, or as it was.
func jumbled(random *rand.Rand, list []string) []string {
	list = slices.Clone(list)
	if len(list) == 0 {
		return list
	}
	one, to := random.Intn(len(list)), random.Intn(len(list))
	switch random.Intn(8) {
	case 0:
		return slices.Insert(list, to, list[one])
	case 1:
		return slices.Delete(list, one, one+1)
	case 2:
		return append(slices.Delete(slices.Clone(list), one, one+1), list[one])
	default:
		return list
	}
}

func TestShuffled(t *testing.T) {
	random := rand.New(rand.NewSource(12))
	codes := map[api.Errno]int{}
	for range 5000 {
		s := shuffled(random)
		check(t, s)
		codes[Check(s).Code]++
	}
	for _, code := range []api.Errno{api.OK, api.ErrTwice, api.ErrName, api.ErrKind, api.ErrForm} {
		if codes[code] < 50 {
			t.Errorf("too few of code %d: %v", code, codes)
		}
	}
	if codes[api.ErrSyntax] > 0 {
		t.Errorf("shuffled, and no tree: %v", codes)
	}
}

func TestWhatSynCallsWrong(t *testing.T) {
	deep := "property q = " + strings.Repeat("not ", api.MaxDepth) + "knows s;"
	for _, x := range []struct {
		s    string
		want api.Wrong
	}{
		{"x", api.Wrong{Code: api.ErrSyntax}},
		{"secret", api.Wrong{Code: api.ErrSyntax, At: 6}},
		{"secret a", api.Wrong{Code: api.ErrSyntax, At: 8}},
		{"secret own;", api.Wrong{Code: api.ErrSyntax, At: 7}},
		{"secret a; secret a", api.Wrong{Code: api.ErrSyntax, At: 18}},
		{"secret a; @", api.Wrong{Code: api.ErrChar, At: 10}},
		{"secret a; secret a; \"", api.Wrong{Code: api.ErrChar, At: 20}},
		{"secret " + strings.Repeat("n", api.MaxName+1) + ";", api.Wrong{Code: api.ErrLong, At: 7}},
		{strings.Repeat(" ", api.MaxText+1), api.Wrong{Code: api.ErrLong}},
		{"secret a; secret a;" + strings.Repeat(" ", api.MaxText), api.Wrong{Code: api.ErrLong}},
		{strings.Repeat(";", api.MaxTokens+1), api.Wrong{Code: api.ErrLong, At: api.MaxTokens}},
		{"secret s;" + deep, api.Wrong{Code: api.ErrDeep}},
		{"secret s; secret s;" + deep, api.Wrong{Code: api.ErrDeep}},
		{"secret evil; network; network; network", api.Wrong{Code: api.ErrSyntax, At: 38}},
		{"endpoint e at o GET \"/\" { script any; }", api.Wrong{Code: api.ErrSyntax, At: 33}},
	} {
		mustTell(t, x.s, x.want)
		check(t, x.s)
	}
	for n := range len(full) {
		for _, s := range []string{full[:n], full[n:], full[:n] + "@" + full[n:], full[:n] + " secret " + full[n:]} {
			check(t, s)
		}
	}
}

func TestLongDescriptions(t *testing.T) {
	mustFail(t, "network;@"+strings.Repeat("network;", api.MaxTokens/2-1), api.ErrTwice)
	mustFail(t, "endpoint e at o GET\"/\"{own;@"+strings.Repeat("own;", 990)+"}origin o\"http://o\";", api.ErrTwice)
	mustFail(t, names+"property q = knows s"+strings.Repeat(" and knows s", api.MaxDepth-2)+" and knows @nobody;", api.ErrName)
	mustBe(t, names+"property q = "+strings.Repeat("not ", api.MaxDepth-1)+"knows s;", also("q")...)
	mustFail(t, names+"property q = "+strings.Repeat("not ", api.MaxDepth-1)+"knows @e;", api.ErrKind)
	headers := ""
	for i := range 200 {
		headers += "header \"h" + strings.Repeat("x", i%20) + strings.Repeat("y", i/20) + "\"; "
	}
	mustBe(t, in("a", headers), also("x")...)
	mustFail(t, in("a", headers+"header @\"HXYY\";"), api.ErrTwice)
}

func TestAnswersAreNew(t *testing.T) {
	s := strings.Clone(full)
	first, second := Names(s), Names(s)
	for i, name := range first {
		at := strings.Index(s, name)
		if unsafe.StringData(name) == unsafe.StringData(s[at:]) || unsafe.StringData(name) == unsafe.StringData(second[i]) {
			t.Errorf("R4: the name %s shares memory", name)
		}
	}
	first[0] = "changed"
	_ = append(first[:1], "changed")
	if got := Names(s); !slices.Equal(got, second) || s != full || Check(s).Code != api.OK {
		t.Errorf("R4: Names: %q, when an answer was changed; wanted %q", got, second)
	}
}

func TestFromSeveralGoroutines(t *testing.T) {
	want := Names(full)
	var group sync.WaitGroup
	for range 8 {
		group.Go(func() {
			for range 100 {
				if !slices.Equal(Names(full), want) || Check(full).Code != api.OK || Check("secret a; secret a;").At != 17 {
					t.Error("R5: another answer from several goroutines")
				}
			}
		})
	}
	group.Wait()
}

func FuzzWf(f *testing.F) {
	f.Add(full)
	f.Add(names)
	f.Add(in("b", "sets d; gives s; needs c; open; methods \"GET\"; header \"x\"; cors any; cors evil; allow \"a\"; csp \"\";"))
	random := rand.New(rand.NewSource(13))
	for range 50 {
		f.Add(shuffled(random))
	}
	f.Fuzz(func(t *testing.T, s string) { check(t, s) })
}
