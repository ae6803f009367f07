package wf

import (
	"strings"

	"moat/api"
	"moat/cookie"
	"moat/field"
	"moat/safe"
	"moat/tree"
)

// attribute looks at an attribute of an endpoint; seen counts, by their keys, what stood there ahead of it.
func (c *checker) attribute(endpoint tree.Node, attribute tree.Node, seen map[string]int) {
	word, last := attribute.Tokens[0], attribute.Tokens[len(attribute.Tokens)-1]
	key, place := once(word, last)
	seen[key]++
	if last.Kind == api.TokName {
		c.tell(last, c.naming(word.Text, last.Text))
	}
	c.tell(place, onceOnly(seen[key]))
	c.tell(last, formed(textFits(word.Text, last.Text)))
	switch word.Text {
	case "sets":
		c.tell(last, c.setting(endpoint, last.Text))
	case "gives":
		c.tell(word, needing(endpoint))
	}
}

// once is the key of what may be there once, and the token at which a second one of it is told.
func once(word api.Token, last api.Token) (string, api.Token) {
	switch word.Text {
	case "script", "needs", "sets", "gives", "cors":
		return word.Text + " " + last.Text, last
	case "header":
		return word.Text + " " + field.Lower(last.Text), last
	case "redirect":
		return "open", word
	default:
		return word.Text, word
	}
}

// textFits tells whether what stands last in an attribute is of the form that its word asks for.
func textFits(word string, text string) bool {
	switch word {
	case "header":
		return field.Name(text)
	case "allow":
		_, right := field.List(text)
		return right
	case "methods":
		return methods(text)
	default:
		return true
	}
}

// methods tells whether s is a list of one known method at least. Unlike field's lists it may have nothing empty in it.
func methods(s string) bool {
	for _, method := range strings.Split(s, ",") {
		if !safe.Known(field.Trim(method)) {
			return false
		}
	}
	return true
}

// needing tells what is wrong where an endpoint gives something: it is to need something, wherever that stands.
func needing(endpoint tree.Node) api.Errno {
	for _, attribute := range endpoint.Parts {
		if wordOf(attribute) == "needs" {
			return api.OK
		}
	}
	return api.ErrKind
}

// setting tells what is wrong where an endpoint sets the cookie of that name, if all that hangs on is right.
func (c *checker) setting(endpoint tree.Node, name string) api.Errno {
	if c.naming("sets", name) != api.OK {
		return api.OK
	}
	item := c.items[c.made[name]]
	own, ownRight := c.origin(endpoint)
	its, itsRight := c.origin(item)
	read, right := cookie.Read(its.Host, item.Tokens[4].Text)
	switch {
	case !ownRight || !itsRight || !right:
		return api.OK
	case its.Host != own.Host, read.Secure && own.Scheme == "http":
		return api.ErrKind
	default:
		return api.OK
	}
}
