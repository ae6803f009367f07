package tree

import (
	"slices"
	"strings"
	"testing"

	"moat/api"
)

const sample = `#
secret s1; endpoint e1 at o1 GET "/" { own; cors any; csp "x y"; }
property p1 = not knows a1 or (ran b1) and stolen c1;`

// one is the token of the sample that begins where mark does.
func one(kind int, mark string, text string) api.Token {
	return api.Token{Kind: kind, At: strings.Index(sample, mark), Text: text}
}

func word(text string) api.Token { return one(api.TokWord, text, text) }

func name(text string) api.Token { return one(api.TokName, text, text) }

func leaf(tokens ...api.Token) Node { return Node{Tokens: tokens} }

func same(a Node, b Node) bool {
	return slices.Equal(a.Tokens, b.Tokens) && slices.EqualFunc(a.Parts, b.Parts, same)
}

func TestRead(t *testing.T) {
	not := Node{[]api.Token{word("not")}, []Node{leaf(word("knows"), name("a1"))}}
	and := Node{[]api.Token{word("and")}, []Node{leaf(word("ran"), name("b1")), leaf(word("stolen"), name("c1"))}}
	or := Node{[]api.Token{one(api.TokWord, "or (", "or")}, []Node{not, and}}
	head := []api.Token{word("endpoint"), name("e1"), word("at"), name("o1"), one(api.TokCaps, "GET", "GET"), one(api.TokText, `"/`, "/")}
	attributes := []Node{leaf(word("own")), leaf(word("cors"), word("any")), leaf(word("csp"), one(api.TokText, `"x`, "x y"))}
	want := []Node{leaf(word("secret"), name("s1")), {head, attributes}, {[]api.Token{word("property"), name("p1")}, []Node{or}}}
	if got, wrong := Read(sample); wrong != (api.Wrong{}) || !slices.EqualFunc(got, want, same) {
		t.Errorf("P10.1: Read: %v, %v; wanted %v", got, wrong, want)
	}
}

func TestWords(t *testing.T) {
	for want, node := range map[string]Node{
		"":                             {},
		"own":                          leaf(word("own")),
		"cors any":                     leaf(word("cors"), word("any")),
		`csp "x y"`:                    leaf(word("csp"), one(api.TokText, `"x`, "x y")),
		`endpoint e1 at o1 GET "/" ""`: leaf(word("endpoint"), name("e1"), word("at"), name("o1"), one(api.TokCaps, "GET", "GET"), one(api.TokText, `"/`, "/"), api.Token{Kind: api.TokText}),
		"not":                          {[]api.Token{word("not")}, []Node{leaf(word("knows"), name("a1"))}},
	} {
		if got := node.Words(); got != want {
			t.Errorf("P10.1, P11.1: Words of %v: %q; wanted %q", node, got, want)
		}
	}
}

func TestReadOfWhatIsWrong(t *testing.T) {
	for s, want := range map[string]api.Wrong{
		"network; @":                  {Code: api.ErrChar, At: 9},
		"network; own":                {Code: api.ErrSyntax, At: 9},
		"network; secret a\n":         {Code: api.ErrSyntax, At: 18},
		"property p = ((knows a) or ": {Code: api.ErrSyntax, At: 27},
		"network; property p = " + strings.Repeat("not ", api.MaxDepth) + "knows a;": {Code: api.ErrDeep},
	} {
		if got, wrong := Read(s); len(got) != 0 || wrong != want {
			t.Errorf("P10.1: Read(%.80q): %v, %v; wanted %v", s, got, wrong, want)
		}
	}
}

func TestAnswersAreNew(t *testing.T) {
	first, _ := Read(sample)
	second, _ := Read(sample)
	var blot func(nodes []Node)
	blot = func(nodes []Node) {
		for i, node := range nodes {
			blot(node.Parts)
			clear(node.Tokens)
			_ = append(node.Tokens, api.Token{}, api.Token{})
			nodes[i] = Node{}
		}
	}
	for i := range second {
		if i != 1 {
			blot(second[i : i+1])
		}
	}
	if !same(first[1], second[1]) {
		t.Error("R4: items of one answer share memory")
	}
	if third, _ := Read(sample); !slices.EqualFunc(first, third, same) {
		t.Error("R4: answers share memory")
	}
}
