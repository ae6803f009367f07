package wf

import (
	"moat/api"
	"moat/cookie"
	"moat/domain"
	"moat/safe"
	"moat/tree"
	"moat/url"
)

// checker goes through items until something is wrong in one. That item it looks at to its end, so that no check asks whether another one held.
type checker struct {
	items  []tree.Node
	made   map[string]int // by names: the first item that makes it
	counts map[string]int // by items' words: how many there were yet
	wrong  api.Wrong
}

// tell keeps what stands first; at one token what is told first counts.
func (c *checker) tell(token api.Token, code api.Errno) {
	if code != api.OK && (c.wrong.Code == api.OK || token.At < c.wrong.At) {
		c.wrong = api.Wrong{Code: code, At: token.At}
	}
}

// all goes through all items, from the first one on.
func (c *checker) all() api.Wrong {
	for i := range c.items {
		c.item(i)
		if c.wrong.Code != api.OK {
			break
		}
	}
	return c.wrong
}

func (c *checker) item(i int) {
	item := c.items[i]
	word := wordOf(item)
	c.counts[word]++
	if !makesName(item) {
		c.tell(item.Tokens[0], onceOnly(c.counts[word]))
		return
	}
	c.tell(item.Tokens[1], c.making(i))
	switch word {
	case "origin":
		c.tell(item.Tokens[2], c.originText(i))
	case "cookie":
		c.tell(item.Tokens[3], c.naming("at", item.Tokens[3].Text))
		c.tell(item.Tokens[4], c.cookieText(item))
	case "endpoint":
		c.endpoint(item)
	case "property":
		c.formula(item.Parts[0])
	}
}

// making tells what is wrong with the name that an item makes.
func (c *checker) making(i int) api.Errno {
	name, word := nameOf(c.items[i]), wordOf(c.items[i])
	switch {
	case c.made[name] != i, name == evil:
		return api.ErrTwice
	case c.counts[word] > most(word):
		return api.ErrLong
	default:
		return api.OK
	}
}

// most is how many items there may be of that word.
func most(word string) int {
	switch word {
	case "origin":
		return api.MaxOrigins
	case "cookie":
		return api.MaxCookies
	case "secret":
		return api.MaxSecrets
	case "endpoint":
		return api.MaxEndpoints
	default:
		return api.MaxProps
	}
}

// naming tells what is wrong with a name that stands behind that word.
func (c *checker) naming(word string, name string) api.Errno {
	if name == evil {
		return evilBehind(word)
	}
	i, found := c.made[name]
	switch {
	case !found:
		return api.ErrName
	case wordOf(c.items[i]) != asked(word):
		return api.ErrKind
	default:
		return api.OK
	}
}

// evilBehind asks no item: the stranger's origin is there without one, and where it is not, none makes it.
func evilBehind(word string) api.Errno {
	switch word {
	case "script", "cors":
		return api.OK
	default:
		return api.ErrName
	}
}

// asked is the word of the items that may be named behind that word.
func asked(word string) string {
	switch word {
	case "at", "script", "cors", "ran":
		return "origin"
	case "needs", "sets", "stolen":
		return "cookie"
	case "gives", "knows":
		return "secret"
	default:
		return "endpoint"
	}
}

func (c *checker) originText(i int) api.Errno {
	own, right := url.Read(c.items[i].Tokens[2].Text)
	if !right || domain.Site(own.Host) == domain.Site(api.EvilHost) {
		return api.ErrForm
	}
	for _, ahead := range c.items[:i] {
		if wordOf(ahead) != "origin" {
			continue
		}
		if other, right := url.Read(ahead.Tokens[2].Text); right && url.Same(own, other) {
			return api.ErrTwice
		}
	}
	return api.OK
}

// cookieText tells nothing where the origin's own text is wrong, or there is none: that is told elsewhere.
func (c *checker) cookieText(item tree.Node) api.Errno {
	own, right := c.origin(item)
	if !right {
		return api.OK
	}
	if _, right = cookie.Read(own.Host, item.Tokens[4].Text); !right {
		return api.ErrForm
	}
	return api.OK
}

// origin reads the origin that a cookie, or an endpoint, is at, wherever that one is made.
//
// One of the stranger's site is read too: its text is one of an origin, though it may not be here.
func (c *checker) origin(item tree.Node) (api.Origin, bool) {
	name := item.Tokens[3].Text
	if c.naming("at", name) != api.OK {
		return api.Origin{}, false
	}
	return url.Read(c.items[c.made[name]].Tokens[2].Text)
}

func (c *checker) endpoint(item tree.Node) {
	at, method, path := item.Tokens[3], item.Tokens[4], item.Tokens[5]
	c.tell(at, c.naming("at", at.Text))
	c.tell(method, formed(safe.Known(method.Text)))
	c.tell(path, formed(url.Path(path.Text)))
	seen := map[string]int{}
	for _, attribute := range item.Parts {
		c.attribute(item, attribute, seen)
	}
}

// formula goes through its names: the words that join them are right wherever they stand.
func (c *checker) formula(part tree.Node) {
	for _, inner := range part.Parts {
		c.formula(inner)
	}
	if len(part.Parts) == 0 {
		c.tell(part.Tokens[1], c.naming(wordOf(part), part.Tokens[1].Text))
	}
}

// onceOnly tells what is wrong with the count-th one of what may be there once.
func onceOnly(count int) api.Errno {
	if count > 1 {
		return api.ErrTwice
	}
	return api.OK
}

func formed(right bool) api.Errno {
	if right {
		return api.OK
	}
	return api.ErrForm
}
