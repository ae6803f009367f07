// Package tree reads descriptions into trees, for the layers that look at what a description is made of. Its grammar: shared/doc/10-syn.md.
package tree

import (
	"strings"

	"moat/api"
	"moat/lex"
)

// What may be wanted at a place, other than a word or a sign as it is written.
const (
	someName  = "NAME"
	someCaps  = "CAPS"
	someText  = "TEXT"
	anyOrName = "any or NAME"
)

// stuck is what the reader panics with. It tells no place: the reader stands there.
const stuck = "no file goes on so"

// Node is an item, an attribute of an endpoint, or a part of a formula.
//
// An endpoint is made of its attributes, a property of its formula; of a formula's parts not, and, or are made of others.
type Node struct {
	Tokens []api.Token // its own ones, but signs
	Parts  []Node      // what it is made of, from left to right
}

// Words are a node's own tokens as they stand in a description, with a blank between.
func (n Node) Words() string {
	var words strings.Builder
	for i, token := range n.Tokens {
		if i > 0 {
			words.WriteString(" ")
		}
		words.WriteString(written(token))
	}
	return words.String()
}

// written gives a text the quotes back that its token is told without.
func written(token api.Token) string {
	if token.Kind == api.TokText {
		return "\"" + token.Text + "\""
	}
	return token.Text
}

// Read lists the items of a description, or tells what is wrong (P10.1).
func Read(s string) ([]Node, api.Wrong) {
	tokens, wrong := lex.Tokens(s)
	if wrong.Code != api.OK {
		return nil, wrong
	}
	r := &reader{tokens: tokens, size: len(s)}
	items, wrong := r.file()
	if tooDeep(items) {
		return nil, api.Wrong{Code: api.ErrDeep}
	}
	return items, wrong
}

// tooDeep tells whether the parts of an item lie too deep in one another. Of attributes none lies in another.
func tooDeep(items []Node) bool {
	for _, item := range items {
		if depth(item.Parts) > api.MaxDepth {
			return true
		}
	}
	return false
}

// depth is how many of these nodes, and of what they are made of, lie within one another.
func depth(nodes []Node) int {
	deepest := 0
	for _, node := range nodes {
		deepest = max(deepest, 1+depth(node.Parts))
	}
	return deepest
}

// reader goes through tokens, and stands at the one that is next; it goes past none that does not fit.
type reader struct {
	tokens []api.Token
	next   int
	size   int // of the whole text
}

// file lists all items. Where the reader gives up, however deep in an item, all that was read is dropped.
func (r *reader) file() (items []Node, wrong api.Wrong) {
	defer func() {
		if recover() != nil {
			items, wrong = nil, api.Wrong{Code: api.ErrSyntax, At: r.at()}
		}
	}()
	for r.next < len(r.tokens) {
		items = append(items, r.item())
	}
	return items, api.Wrong{}
}

func (r *reader) item() Node {
	switch word := r.word(); word {
	case "origin":
		return r.leaf(word, someName, someText, ";")
	case "cookie":
		return r.leaf(word, someName, "at", someName, someText, ";")
	case "secret":
		return r.leaf(word, someName, ";")
	case "network":
		return r.leaf(word, ";")
	case "endpoint":
		return r.endpoint()
	case "property":
		return r.property()
	default:
		panic(stuck)
	}
}

func (r *reader) endpoint() Node {
	node := r.leaf("endpoint", someName, "at", someName, someCaps, someText, "{")
	for !r.sees("}") {
		node.Parts = append(node.Parts, r.attribute())
	}
	r.take("}")
	return node
}

func (r *reader) attribute() Node {
	switch word := r.word(); word {
	case "page", "inject", "own", "changes", "open", "credentials":
		return r.leaf(word, ";")
	case "script", "needs", "sets", "gives", "redirect":
		return r.leaf(word, someName, ";")
	case "cors":
		return r.leaf(word, anyOrName, ";")
	case "header", "allow", "methods", "csp":
		return r.leaf(word, someText, ";")
	default:
		panic(stuck)
	}
}

func (r *reader) property() Node {
	node := r.leaf("property", someName, "=")
	node.Parts = []Node{r.formula()}
	r.take(";")
	return node
}

func (r *reader) formula() Node { return r.chain("or", r.term) }

func (r *reader) term() Node { return r.chain("and", r.factor) }

func (r *reader) factor() Node {
	switch word := r.word(); word {
	case "not":
		node := r.leaf(word)
		node.Parts = []Node{r.factor()}
		return node
	case "changed", "forged", "knows", "stolen", "ran":
		return r.leaf(word, someName)
	default:
		r.take("(")
		node := r.formula()
		r.take(")")
		return node
	}
}

// chain reads links with word between, and joins them from the left.
func (r *reader) chain(word string, link func() Node) Node {
	left := link()
	for r.sees(word) {
		node := r.leaf(word)
		node.Parts = []Node{left, link()}
		left = node
	}
	return left
}

// leaf reads what is wanted as a node that is made of nothing yet.
func (r *reader) leaf(wants ...string) Node { return Node{Tokens: r.take(wants...)} }

// take goes past tokens, each as it is wanted, and lists those that are no signs.
func (r *reader) take(wants ...string) []api.Token {
	var taken []api.Token
	for _, want := range wants {
		if !r.sees(want) {
			panic(stuck)
		}
		if token := r.tokens[r.next]; token.Kind != api.TokSign {
			taken = append(taken, token)
		}
		r.next++
	}
	return taken
}

// sees tells whether the next token is as it is wanted.
func (r *reader) sees(want string) bool {
	return r.next < len(r.tokens) && fits(r.tokens[r.next], want)
}

// word is empty, if the next token is none.
func (r *reader) word() string {
	if r.next == len(r.tokens) || r.tokens[r.next].Kind != api.TokWord {
		return ""
	}
	return r.tokens[r.next].Text
}

// at is where the next token stands; the end stands at the text's length, behind blanks and remarks.
func (r *reader) at() int {
	if r.next == len(r.tokens) {
		return r.size
	}
	return r.tokens[r.next].At
}

// fits asks the token's kind too: a text may hold what is a word or a sign elsewhere.
func fits(token api.Token, want string) bool {
	switch want {
	case someName:
		return token.Kind == api.TokName
	case someCaps:
		return token.Kind == api.TokCaps
	case someText:
		return token.Kind == api.TokText
	case anyOrName:
		return fits(token, someName) || fits(token, "any")
	default:
		return (token.Kind == api.TokWord || token.Kind == api.TokSign) && token.Text == want
	}
}
