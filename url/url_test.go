package url

import (
	"fmt"
	"math"
	"strconv"
	"strings"
	"sync"
	"testing"

	"moat/api"
)

const (
	small  = "abcdefghijklmnopqrstuvwxyz"
	digits = "0123456789"
)

// hostOf makes a host of n bytes, whose labels have 20 bytes at most.
func hostOf(n int) string {
	b := []byte(strings.Repeat("a", n))
	for i := 10; i < n-1; i += 11 {
		b[i] = '.'
	}
	return string(b)
}

func TestHostLabels(t *testing.T) {
	for n, want := range map[int]bool{0: false, 1: true, 2: true, 19: true, 20: true, 21: false, 40: false} {
		label := strings.Repeat("x", n)
		for _, s := range []string{label, "a." + label, label + ".a", "a." + label + ".b"} {
			if got := Host(s); got != want {
				t.Errorf("P1.1: Host(%q), a label of %d bytes: %v", s, n, got)
			}
		}
	}
}

func TestHostHyphens(t *testing.T) {
	for s, want := range map[string]bool{
		"a-b": true, "a--b": true, "0-9": true, "a-b.c-d": true, "a." + strings.Repeat("x-", 9) + "xx": true,
		"-": false, "--": false, "-a": false, "a-": false, "a.-b": false, "a-.b": false, "a.-": false, "-.a": false, "a.-.b": false,
		strings.Repeat("x", 19) + "-": false, "-" + strings.Repeat("x", 19): false,
	} {
		if got := Host(s); got != want {
			t.Errorf("P1.1: Host(%q): %v", s, got)
		}
	}
}

func TestHostLength(t *testing.T) {
	for n := 1; n <= api.MaxHost+30; n++ {
		if got, want := Host(hostOf(n)), n <= api.MaxHost; got != want {
			t.Errorf("P1.1: Host of %d bytes: %v", n, got)
		}
	}
	if Host(strings.Repeat("a.", 1<<20) + "a") {
		t.Error("P1.1: a host of two million bytes")
	}
}

func TestHostBytes(t *testing.T) {
	for c := range 256 {
		b := string([]byte{byte(c)})
		within := strings.Contains(small+digits, b)
		if got := Host(b); got != within {
			t.Errorf("P1.1: Host(%q): %v", b, got)
		}
		if got, want := Host("a"+b+"b"), within || b == "-" || b == "."; got != want {
			t.Errorf("P1.1: Host(%q): %v", "a"+b+"b", got)
		}
	}
	for _, s := range []string{"", ".", "..", ".a", "a.", "a..b", "A.example", "a.Example", "a b", "a_b", "a\x00", "\xff", "é", "a:80", "http://a"} {
		if Host(s) {
			t.Errorf("P1.1: Host(%q)", s)
		}
	}
}

func TestPortAll(t *testing.T) {
	for n := range 70000 {
		s := strconv.Itoa(n)
		got, ok := Port(s)
		switch within := 1 <= n && n <= 65535; {
		case within && (got != n || !ok), !within && (got != 0 || ok):
			t.Fatalf("P1.1: Port(%q): %d, %v", s, got, ok)
		}
		if got, ok := Port("0" + s); got != 0 || ok {
			t.Fatalf("P1.1: Port(%q): %d, %v", "0"+s, got, ok)
		}
	}
}

func TestPortWrong(t *testing.T) {
	for _, s := range []string{
		"", "0", "00", "01", "080", "00001", "065535", "65536", "99999", "100000", "655350",
		"-1", "+1", "-", "+", " 1", "1 ", "1\n", "1_0", "0x1", "1.0", "1e3", "x", "8x", "x8", ":", ":80", "8/", "8:", "٣", "\xff", "\x00",
		"4294967297", "18446744073709551617", "99999999999999999999", strings.Repeat("1", 1<<20),
	} {
		if n, ok := Port(s); n != 0 || ok {
			t.Errorf("P1.1: Port(%q): %d, %v", s, n, ok)
		}
	}
	for c := range 256 {
		s := string([]byte{'1', byte(c)})
		if _, ok := Port(s); ok != strings.Contains(digits, s[1:]) {
			t.Errorf("P1.1: Port(%q): %v", s, ok)
		}
	}
}

func TestReadAndText(t *testing.T) {
	long := hostOf(api.MaxHost)
	for _, x := range []struct {
		s    string
		want api.Origin
		text string
	}{
		{"http://a", api.Origin{Scheme: "http", Host: "a", Port: 80}, "http://a"},
		{"https://a", api.Origin{Scheme: "https", Host: "a", Port: 443}, "https://a"},
		{"http://a:80", api.Origin{Scheme: "http", Host: "a", Port: 80}, "http://a"},
		{"https://a:443", api.Origin{Scheme: "https", Host: "a", Port: 443}, "https://a"},
		{"http://a:443", api.Origin{Scheme: "http", Host: "a", Port: 443}, "http://a:443"},
		{"https://a:80", api.Origin{Scheme: "https", Host: "a", Port: 80}, "https://a:80"},
		{"http://a:1", api.Origin{Scheme: "http", Host: "a", Port: 1}, "http://a:1"},
		{"https://a:65535", api.Origin{Scheme: "https", Host: "a", Port: 65535}, "https://a:65535"},
		{"https://shop.a-b.example:8443", api.Origin{Scheme: "https", Host: "shop.a-b.example", Port: 8443}, "https://shop.a-b.example:8443"},
		{"http://127.0.0.1:8080", api.Origin{Scheme: "http", Host: "127.0.0.1", Port: 8080}, "http://127.0.0.1:8080"},
		{"http://http", api.Origin{Scheme: "http", Host: "http", Port: 80}, "http://http"},
		{"https://" + long + ":65535", api.Origin{Scheme: "https", Host: long, Port: 65535}, "https://" + long + ":65535"},
	} {
		o, ok := Read(x.s)
		if !ok || o != x.want {
			t.Errorf("P1.1: Read(%q): %v, %v", x.s, o, ok)
		}
		if got := Text(x.want); got != x.text {
			t.Errorf("P1.1: Text(%v): %q", x.want, got)
		}
	}
}

func TestReadWrong(t *testing.T) {
	for _, s := range []string{
		"", "a", "://a", "//a", "http", "http:", "http:/", "http://", "https://", "http:a", "http:/a", "http//a", "https//a", "httpss://a", "http:///a",
		"ftp://a", "ws://a", "HTTP://a", "Http://a", "HTTPS://a", "httpS://a", "http://A", "https://a.B",
		"http://a:", "https://:80", "http://:", "http://a:0", "http://a:65536", "http://a:080", "https://a:0443", "http://a:+80", "http://a:-1", "http://a:x", "http://a:80:80", "http://a::80", "http://a:80 ",
		"http://a/", "http://a:80/", "http://a/b", "http://a?b", "http://a#b", "http://u@a", "http://[1]", "http://a_b", "http://a b", "http://é", "http://\xff",
		" http://a", "http://a ", "http:// a", "http://a\n", "http://a.", "http://.a", "http://a..b", "http://-a", "http://a-", "http://http://a", "http://https://a",
		"http://" + strings.Repeat("x", 21), "https://" + hostOf(api.MaxHost+1), "https://" + strings.Repeat("a", 1<<20),
	} {
		if o, ok := Read(s); ok || o != (api.Origin{}) {
			t.Errorf("P1.1: Read(%q): %v, %v", s, o, ok)
		}
	}
}

func TestTextIsReadAgain(t *testing.T) {
	for _, scheme := range []string{"http", "https"} {
		for port := 1; port <= 65535; port++ {
			o := api.Origin{Scheme: scheme, Host: "a.example", Port: port}
			s := Text(o)
			if got, ok := Read(s); !ok || got != o {
				t.Fatalf("P1.1: Read(%q): %v, %v", s, got, ok)
			}
			own := scheme == "http" && port == 80 || scheme == "https" && port == 443
			if told := s != scheme+"://a.example"; told == own {
				t.Fatalf("P1.1: Text(%v): %q", o, s)
			}
		}
	}
	named := api.Origin{Name: "shop", Scheme: "https", Host: "a", Port: 443}
	if got := Text(named); got != "https://a" {
		t.Errorf("P1.1: Text with a name: %q", got)
	}
}

func TestTextWrong(t *testing.T) {
	for _, o := range []api.Origin{
		{}, {Name: "n"}, {Host: "a", Port: 80}, {Scheme: "http", Port: 80}, {Scheme: "http", Host: "a"},
		{Scheme: "ftp", Host: "a", Port: 21}, {Scheme: "HTTP", Host: "a", Port: 80}, {Scheme: "http:", Host: "a", Port: 80}, {Scheme: "http://", Host: "a", Port: 80}, {Scheme: " https", Host: "a", Port: 443},
		{Scheme: "http", Host: "A", Port: 80}, {Scheme: "http", Host: "a:80", Port: 80}, {Scheme: "http", Host: "a:8", Port: 80}, {Scheme: "https", Host: "a/", Port: 443}, {Scheme: "https", Host: "a.", Port: 443}, {Scheme: "https", Host: "-a", Port: 443},
		{Scheme: "https", Host: strings.Repeat("x", 21), Port: 443}, {Scheme: "https", Host: hostOf(api.MaxHost + 1), Port: 443},
		{Scheme: "http", Host: "a", Port: -1}, {Scheme: "http", Host: "a", Port: -80}, {Scheme: "http", Host: "a", Port: 65536}, {Scheme: "http", Host: "a", Port: 65536 + 80}, {Scheme: "http", Host: "a", Port: math.MaxInt}, {Scheme: "http", Host: "a", Port: math.MinInt},
	} {
		if s := Text(o); s != "" {
			t.Errorf("P1.1: Text(%v): %q", o, s)
		}
	}
}

func TestSame(t *testing.T) {
	base := api.Origin{Name: "x", Scheme: "http", Host: "h", Port: 1}
	for _, x := range []struct {
		o    api.Origin
		want bool
	}{
		{base, true},
		{api.Origin{Name: "y", Scheme: "http", Host: "h", Port: 1}, true},
		{api.Origin{Scheme: "http", Host: "h", Port: 1}, true},
		{api.Origin{Name: "x", Scheme: "https", Host: "h", Port: 1}, false},
		{api.Origin{Name: "x", Scheme: "HTTP", Host: "h", Port: 1}, false},
		{api.Origin{Name: "x", Scheme: "http", Host: "www.h", Port: 1}, false},
		{api.Origin{Name: "x", Scheme: "http", Host: "H", Port: 1}, false},
		{api.Origin{Name: "x", Scheme: "http", Host: "h", Port: 2}, false},
		{api.Origin{Name: "x", Scheme: "http", Host: "h"}, false},
		{api.Origin{}, false},
	} {
		if Same(base, x.o) != x.want || Same(x.o, base) != x.want {
			t.Errorf("P1.1: Same(%v, %v) is not %v", base, x.o, x.want)
		}
	}
}

// Same asks for three fields, and not for an origin that may be read.
func TestSameUnreadable(t *testing.T) {
	for _, o := range []api.Origin{{}, {Scheme: "ftp", Host: "A", Port: -1}, {Scheme: "", Host: "a", Port: 99999}} {
		p := o
		p.Name = "n"
		if !Same(o, p) || !Same(p, o) {
			t.Errorf("P1.1: Same(%v, %v)", o, p)
		}
	}
}

func TestPathLength(t *testing.T) {
	for n, want := range map[int]bool{0: false, 1: true, 2: true, 59: true, 60: true, 61: false, 62: false, 1 << 20: false} {
		s := strings.Repeat("/", n)
		if got := Path(s); got != want {
			t.Errorf("P1.1: Path of %d bytes: %v", n, got)
		}
	}
}

func TestPathBytes(t *testing.T) {
	for c := range 256 {
		b := string([]byte{byte(c)})
		within := strings.Contains(small+digits+"/-_.", b)
		for _, s := range []string{"/" + b, "/a" + b + "b"} {
			if got := Path(s); got != within {
				t.Errorf("P1.1: Path(%q): %v", s, got)
			}
		}
		if got := Path(b + "/"); got != (b == "/") {
			t.Errorf("P1.1: Path(%q): %v", b+"/", got)
		}
	}
	for s, want := range map[string]bool{
		"/": true, "//": true, "/a/b-c_d.9": true, "/..": true, "/-": true, "/a/": true,
		"": false, "a": false, "a/": false, " /": false, "/ ": false, "/A": false, "/a?b": false, "/a#": false, "/a%20": false, "/é": false, "/\xff": false, "/\x00": false,
	} {
		if got := Path(s); got != want {
			t.Errorf("P1.1: Path(%q): %v", s, got)
		}
	}
}

// R5: plain functions may be called from several goroutines at one time.
func TestSeveralGoroutines(t *testing.T) {
	var all sync.WaitGroup
	for i := 1; i <= 8; i++ {
		all.Add(1)
		go func() {
			defer all.Done()
			want := fmt.Sprintf("https://a%d.example:%d", i, i)
			for range 1000 {
				if o, ok := Read(want); !ok || Text(o) != want {
					t.Errorf("R5: %q: %v, %v", want, o, ok)
				}
			}
		}()
	}
	all.Wait()
}

func FuzzRead(f *testing.F) {
	for _, s := range []string{"", "https://a.example", "http://a:8080", "https://a:443", "http://a:0"} {
		f.Add(s)
	}
	f.Fuzz(func(t *testing.T, s string) {
		o, ok := Read(s)
		text := Text(o)
		switch {
		case !ok && o != (api.Origin{}):
			t.Errorf("R2: Read(%q): %v", s, o)
		case ok && text != s && text+":"+strconv.Itoa(o.Port) != s:
			t.Errorf("P1.1: Read(%q), and its text is %q", s, text)
		}
		Host(s)
		Port(s)
		Path(s)
	})
}
