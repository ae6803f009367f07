package wf

import (
	"slices"
	"strings"
	"testing"

	"moat/api"
	"moat/cookie"
	"moat/field"
	"moat/lex"
	"moat/syn"
	"moat/url"
)

// asks tells which item's name may stand behind a word.
var asks = map[string]string{
	"at": "origin", "script": "origin", "cors": "origin", "ran": "origin",
	"needs": "cookie", "sets": "cookie", "stolen": "cookie",
	"gives": "secret", "knows": "secret",
	"redirect": "endpoint", "changed": "endpoint", "forged": "endpoint",
}

// limits tells how many items there may be of a word.
var limits = map[string]int{"origin": 6, "cookie": 6, "secret": 6, "endpoint": 10, "property": 6, "network": 1}

// flat is a description as lists of tokens, an item each; all is told of it that is wrong, in the order of the chapter.
type flat struct {
	items  [][]api.Token
	faults []api.Wrong
}

func (f *flat) fault(bad bool, token api.Token, code api.Errno) {
	if bad {
		f.faults = append(f.faults, api.Wrong{Code: code, At: token.At})
	}
}

// plainCheck is Check, said in another way: each rule goes through the whole text, and of all that they find the first one counts.
func plainCheck(s string) api.Wrong {
	if _, wrong := syn.Dump(s); wrong.Code != api.OK {
		return wrong
	}
	f := flat{items: cutItems(s)}
	for i, item := range f.items {
		f.makes(i, item)
		f.names(item)
	}
	for i, item := range f.items {
		switch item[0].Text {
		case "origin":
			f.anOrigin(i, item)
		case "cookie":
			own, ok := f.originAt(item)
			_, reads := cookie.Read(own.Host, item[4].Text)
			f.fault(ok && !reads, item[4], api.ErrForm)
		case "endpoint":
			f.anEndpoint(item)
		}
	}
	if len(f.faults) == 0 {
		return api.Wrong{}
	}
	return slices.MinFunc(f.faults, func(a, b api.Wrong) int { return a.At - b.At })
}

func plainNames(s string) []string {
	var names []string
	if plainCheck(s).Code != api.OK {
		return nil
	}
	for _, item := range cutItems(s) {
		if item[1].Kind == api.TokName {
			names = append(names, item[1].Text)
		}
	}
	return names
}

// cutItems cuts a description's tokens, signs and all, behind each item.
func cutItems(s string) [][]api.Token {
	tokens, _ := lex.Tokens(s)
	var items [][]api.Token
	from, within := 0, false
	for i, token := range tokens {
		if token.Kind != api.TokSign {
			continue
		}
		within = token.Text == "{" || within && token.Text != "}"
		if token.Text == "}" || token.Text == ";" && !within {
			items = append(items, tokens[from:i+1])
			from = i + 1
		}
	}
	return items
}

// find is the first item of that name; nil, if there is none.
func (f *flat) find(name string) []api.Token {
	for _, item := range f.items {
		if item[1].Kind == api.TokName && item[1].Text == name && name != "evil" {
			return item
		}
	}
	return nil
}

func (f *flat) makes(i int, item []api.Token) {
	names, words := 0, 0
	for _, ahead := range f.items[:i] {
		if ahead[1].Text == item[1].Text {
			names++
		}
		if ahead[0].Text == item[0].Text {
			words++
		}
	}
	full := words >= limits[item[0].Text]
	if item[0].Text == "network" {
		f.fault(full, item[0], api.ErrTwice)
		return
	}
	f.fault(names > 0 || item[1].Text == "evil", item[1], api.ErrTwice)
	f.fault(full, item[1], api.ErrLong)
}

// names goes by the word ahead of each name alone.
func (f *flat) names(item []api.Token) {
	for j, token := range item[1:] {
		wanted, used := asks[item[j].Text]
		if token.Kind != api.TokName || item[j].Kind != api.TokWord || !used {
			continue
		}
		if token.Text == "evil" && (item[j].Text == "script" || item[j].Text == "cors") {
			continue
		}
		found := f.find(token.Text)
		f.fault(found == nil, token, api.ErrName)
		f.fault(found != nil && found[0].Text != wanted, token, api.ErrKind)
	}
}

func (f *flat) anOrigin(i int, item []api.Token) {
	own, ok := url.Read(item[2].Text)
	f.fault(!ok || own.Host == "evil.test" || strings.HasSuffix(own.Host, ".evil.test"), item[2], api.ErrForm)
	for _, ahead := range f.items[:i] {
		if ahead[0].Text == "origin" {
			other, _ := url.Read(ahead[2].Text)
			f.fault(ok && url.Text(other) == url.Text(own), item[2], api.ErrTwice)
		}
	}
}

// originAt reads the origin of what is at one.
func (f *flat) originAt(item []api.Token) (api.Origin, bool) {
	found := f.find(item[3].Text)
	if found == nil || found[0].Text != "origin" {
		return api.Origin{}, false
	}
	return url.Read(found[2].Text)
}

func (f *flat) anEndpoint(item []api.Token) {
	f.fault(!isMethod(item[4].Text), item[4], api.ErrForm)
	f.fault(!url.Path(item[5].Text), item[5], api.ErrForm)
	var all [][]api.Token
	for from := 7; from < len(item)-1; from += len(all[len(all)-1]) + 1 {
		size := slices.IndexFunc(item[from:], func(token api.Token) bool { return token.Kind == api.TokSign })
		all = append(all, item[from:from+size])
	}
	needs := slices.ContainsFunc(all, func(a []api.Token) bool { return a[0].Text == "needs" })
	for i, attribute := range all {
		for _, ahead := range all[:i] {
			f.again(ahead, attribute)
		}
		f.ofItsForm(attribute)
		f.fault(attribute[0].Text == "sets" && f.cannotSet(item, attribute[1].Text), attribute[len(attribute)-1], api.ErrKind)
		f.fault(attribute[0].Text == "gives" && !needs, attribute[0], api.ErrKind)
	}
}

// again holds an attribute against one ahead of it.
func (f *flat) again(ahead []api.Token, attribute []api.Token) {
	word, before := attribute[0].Text, ahead[0].Text
	switch {
	case strings.Contains(" open redirect ", " "+word+" "):
		f.fault(strings.Contains(" open redirect ", " "+before+" "), attribute[0], api.ErrTwice)
	case word != before:
	case word == "header":
		f.fault(field.Lower(attribute[1].Text) == field.Lower(ahead[1].Text), attribute[1], api.ErrTwice)
	case strings.Contains(" script needs sets gives cors ", " "+word+" "):
		f.fault(attribute[1].Text == ahead[1].Text, attribute[1], api.ErrTwice)
	default:
		f.fault(true, attribute[0], api.ErrTwice)
	}
}

func (f *flat) ofItsForm(attribute []api.Token) {
	switch attribute[0].Text {
	case "header":
		f.fault(!field.Name(attribute[1].Text), attribute[1], api.ErrForm)
	case "allow":
		_, ok := field.List(attribute[1].Text)
		f.fault(!ok, attribute[1], api.ErrForm)
	case "methods":
		for part := range strings.SplitSeq(attribute[1].Text, ",") {
			f.fault(!isMethod(strings.Trim(part, " ")), attribute[1], api.ErrForm)
		}
	}
}

func (f *flat) cannotSet(item []api.Token, name string) bool {
	made := f.find(name)
	if made == nil || made[0].Text != "cookie" {
		return false
	}
	own, ok := f.originAt(item)
	its, right := f.originAt(made)
	c, reads := cookie.Read(its.Host, made[4].Text)
	if !ok || !right || !reads {
		return false
	}
	return own.Host != its.Host || own.Scheme != "https" && c.Secure
}

func isMethod(s string) bool {
	return slices.Contains([]string{"GET", "HEAD", "POST", "PUT", "DELETE", "PATCH"}, s)
}

// check holds both calls against what the oracle says.
func check(t *testing.T, s string) {
	t.Helper()
	if got, want := Check(s), plainCheck(s); got != want {
		t.Errorf("P12.1: Check(%.900q): %v; wanted %v", s, got, want)
	}
	if got, want := Names(s), plainNames(s); !slices.Equal(got, want) {
		t.Errorf("P12.1: Names(%.900q): %q; wanted %q", s, got, want)
	}
}
