// Package url: origins as texts. Its chapter: shared/doc/01-url.md.
package url

import (
	"strconv"
	"strings"

	"moat/api"
)

const (
	maxLabel = 20
	maxPath  = 60
	maxPort  = 65535
	// maxDigits is the length of maxPort: longer texts are turned away before they are counted, so that no sum wraps round.
	maxDigits = 5
)

// Host tells whether s is a host (P1.1).
func Host(s string) bool {
	if len(s) > api.MaxHost {
		return false
	}
	for _, label := range strings.Split(s, ".") {
		if !isLabel(label) {
			return false
		}
	}
	return true
}

// Port reads a port (P1.1).
func Port(s string) (int, bool) {
	switch {
	case s == "", len(s) > maxDigits, s[0] == '0':
		return 0, false
	}
	n := 0
	for i := range len(s) {
		if !isDigit(s[i]) {
			return 0, false
		}
		n = 10*n + int(s[i]-'0')
	}
	if !isPort(n) {
		return 0, false
	}
	return n, true
}

// Read reads an origin's text (P1.1).
func Read(s string) (api.Origin, bool) {
	scheme, rest := cutScheme(s)
	host, digits, told := strings.Cut(rest, ":")
	port, ok := ownPort(scheme)
	if !ok || !Host(host) {
		return api.Origin{}, false
	}
	if told {
		port, ok = Port(digits)
		if !ok {
			return api.Origin{}, false
		}
	}
	// A clone, since an answer shares no memory with an argument (R4).
	return api.Origin{Scheme: scheme, Host: strings.Clone(host), Port: port}, true
}

// Text is the text of an origin (P1.1).
func Text(o api.Origin) string {
	own, ok := ownPort(o.Scheme)
	switch {
	case !ok, !Host(o.Host), !isPort(o.Port):
		return ""
	case o.Port == own:
		return o.Scheme + "://" + o.Host
	default:
		return o.Scheme + "://" + o.Host + ":" + strconv.Itoa(o.Port)
	}
}

// Same tells whether two origins are the same, whatever their names (P1.1).
func Same(a api.Origin, b api.Origin) bool {
	return a.Scheme == b.Scheme && a.Host == b.Host && a.Port == b.Port
}

// Path tells whether s is a path (P1.1).
func Path(s string) bool {
	switch {
	case s == "", len(s) > maxPath, s[0] != '/':
		return false
	}
	for i := range len(s) {
		if !isPathByte(s[i]) {
			return false
		}
	}
	return true
}

// cutScheme answers two empty texts if s begins with no scheme: neither a scheme nor a host is empty, so nothing more has to be told.
func cutScheme(s string) (string, string) {
	if rest, ok := strings.CutPrefix(s, "http://"); ok {
		return "http", rest
	}
	if rest, ok := strings.CutPrefix(s, "https://"); ok {
		return "https", rest
	}
	return "", ""
}

func ownPort(scheme string) (int, bool) {
	switch scheme {
	case "http":
		return 80, true
	case "https":
		return 443, true
	default:
		return 0, false
	}
}

func isPort(n int) bool { return 1 <= n && n <= maxPort }

func isLabel(s string) bool {
	n := len(s)
	switch {
	case n == 0, n > maxLabel, s[0] == '-', s[n-1] == '-':
		return false
	}
	for i := range n {
		if !isLabelByte(s[i]) {
			return false
		}
	}
	return true
}

func isDigit(c byte) bool { return '0' <= c && c <= '9' }

func isLabelByte(c byte) bool {
	switch {
	case 'a' <= c && c <= 'z', isDigit(c), c == '-':
		return true
	default:
		return false
	}
}

func isPathByte(c byte) bool {
	switch c {
	case '/', '_', '.':
		return true
	default:
		return isLabelByte(c)
	}
}
