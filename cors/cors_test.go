package cors

import (
	"math"
	"reflect"
	"slices"
	"strings"
	"sync"
	"testing"

	"moat/api"
)

// bools are both.
func bools() []bool { return []bool{false, true} }

// safeMethods need no leave, otherMethods do, or are none.
func safeMethods() []string { return []string{"GET", "HEAD", "POST"} }

func otherMethods() []string {
	return []string{"PUT", "DELETE", "PATCH", "", "get", "Post", "GET ", "OPTIONS", "\x00", "GET\xff", "\x7f"}
}

// safeHeads need no leave, otherHeads do, or are none.
func safeHeads() []string {
	return []string{"accept", "Accept-Language", "CONTENT-LANGUAGE", "rAnGe"}
}

func otherHeads() []string {
	return []string{"x-a", "X-A", "content-type", "", " ", "accept ", "*", "\x00", "\x1f", "\x7f", "x\xff", "é"}
}

// numbers are who might ask: origins, the others, and such that are nobody's.
func numbers() []int {
	return []int{0, 1, 2, 5, api.Evil, api.User, api.Opaque, -4, 6, 99, math.MaxInt, math.MinInt}
}

// insert is a copy of list with one more item at a place.
func insert[T any](list []T, at int, item T) []T {
	return slices.Insert(slices.Clone(list), at, item)
}

func TestLetsOwnOrigin(t *testing.T) {
	for _, by := range numbers() {
		for _, e := range []api.Endpoint{{Origin: by}, {Origin: by, Any: true}, {Origin: by, Creds: true}, {Origin: by, Cors: []int{4}}, {Origin: by, Cors: []int{by}}} {
			if !Lets(e, by, false) || !Lets(e, by, true) {
				t.Errorf("P5.1: Lets of the own origin %d: %+v", by, e)
			}
		}
	}
}

func TestLetsNamed(t *testing.T) {
	others := []int{2, 7, api.User}
	for _, by := range []int{0, 1, 5, api.Evil} {
		for at := range len(others) + 1 {
			for _, any := range bools() {
				e := api.Endpoint{Origin: 3, Cors: insert(others, at, by), Any: any}
				if !Lets(e, by, false) || Lets(e, by, true) {
					t.Errorf("P5.1: Lets of %d, named at %d, without Creds, Any %v", by, at, any)
				}
				e.Creds = true
				if !Lets(e, by, false) || !Lets(e, by, true) {
					t.Errorf("P5.1: Lets of %d, named at %d, with Creds, Any %v", by, at, any)
				}
			}
		}
	}
}

func TestLetsNotNamed(t *testing.T) {
	for _, list := range [][]int{nil, {}, {2}, {2, 7, 4}, {api.User, api.Opaque}} {
		for _, by := range []int{0, 1, api.Evil, api.User, api.Opaque, -4, 99, math.MaxInt, math.MinInt} {
			for _, creds := range bools() {
				e := api.Endpoint{Origin: 3, Cors: list, Creds: creds}
				if Lets(e, by, false) || Lets(e, by, true) {
					t.Errorf("P5.1: Lets of %d by %v, Creds %v", by, list, creds)
				}
				e.Any = true
				if !Lets(e, by, false) {
					t.Errorf("P5.1: Lets of %d by Any beside %v, Creds %v", by, list, creds)
				}
				if Lets(e, by, true) {
					t.Errorf("P5.1: Lets of %d with creds, by Any beside %v, Creds %v", by, list, creds)
				}
			}
		}
	}
}

func TestLetsUserAndOpaqueAreNeverNamed(t *testing.T) {
	for _, by := range []int{api.User, api.Opaque} {
		for at := range 3 {
			for _, any := range bools() {
				e := api.Endpoint{Origin: 3, Cors: insert([]int{1, api.Evil}, at, by), Creds: true, Any: any}
				if Lets(e, by, false) != any || Lets(e, by, true) {
					t.Errorf("P5.1: Lets of %d, named at %d, Any %v", by, at, any)
				}
			}
		}
	}
}

// checkAhead holds Ahead against what is wanted, by another origin and by the own one.
func checkAhead(t *testing.T, e api.Endpoint, heads bool, want bool) {
	t.Helper()
	for _, creds := range bools() {
		for _, by := range numbers() {
			if by == e.Origin {
				continue
			}
			if got := Ahead(e, by, creds, heads); got != want {
				t.Errorf("P5.1: Ahead(%.200q with %.200q, by %d, %v, %v): %v", e.Method, e.Heads, by, creds, heads, got)
			}
		}
		if Ahead(e, e.Origin, creds, heads) {
			t.Errorf("P5.1: Ahead of the own origin: %.200q with %.200q", e.Method, e.Heads)
		}
	}
}

func TestAheadMethods(t *testing.T) {
	for _, origin := range []int{0, 3, api.Evil} {
		for _, list := range [][]string{nil, {}, {"accept"}, safeHeads()} {
			for _, heads := range bools() {
				for _, m := range safeMethods() {
					checkAhead(t, api.Endpoint{Origin: origin, Method: m, Heads: list}, heads, false)
				}
				for _, m := range otherMethods() {
					checkAhead(t, api.Endpoint{Origin: origin, Method: m, Heads: list}, heads, true)
				}
			}
		}
	}
}

func TestAheadHeads(t *testing.T) {
	for _, other := range otherHeads() {
		for at := range len(safeHeads()) + 1 {
			e := api.Endpoint{Origin: 3, Heads: insert(safeHeads(), at, other)}
			for _, m := range safeMethods() {
				e.Method = m
				checkAhead(t, e, true, true)
				checkAhead(t, e, false, false)
			}
			e.Method = "PUT"
			checkAhead(t, e, true, true)
			checkAhead(t, e, false, true)
		}
	}
}

func TestAheadHangsOnNoLeave(t *testing.T) {
	e := api.Endpoint{Origin: 3, Method: "PUT", Heads: []string{"x-a"}, Any: true, Creds: true, Cors: []int{1, api.Evil}, Allow: []string{"x-a"}, Methods: []string{"PUT"}}
	checkAhead(t, e, true, true)
	checkAhead(t, e, false, true)
	e.Method = "GET"
	checkAhead(t, e, true, true)
	checkAhead(t, e, false, false)
}

func TestMayNeedNotAsk(t *testing.T) {
	for _, creds := range bools() {
		for _, heads := range bools() {
			for _, by := range numbers() {
				own := api.Endpoint{Origin: by, Method: "PUT", Heads: []string{"x-a"}}
				if !May(own, by, creds, heads) {
					t.Errorf("P5.1: May of the own origin %d", by)
				}
				for _, m := range safeMethods() {
					if !May(api.Endpoint{Origin: 3, Method: m, Heads: safeHeads()}, by, creds, heads) || !May(api.Endpoint{Origin: 3, Method: m}, by, creds, heads) {
						t.Errorf("P5.1: May of %s by %d", m, by)
					}
					if got := May(api.Endpoint{Origin: 3, Method: m, Heads: []string{"x-a"}}, by, creds, heads); got != (!heads || by == 3) {
						t.Errorf("P5.1: May of %s with a header, by %d, heads %v: %v", m, by, heads, got)
					}
				}
			}
		}
	}
}

func TestMayOnlyIfLets(t *testing.T) {
	e := api.Endpoint{Origin: 3, Method: "PUT", Heads: []string{"x-a"}, Allow: []string{"x-a"}, Methods: []string{"PUT"}}
	for _, any := range bools() {
		for _, ok := range bools() {
			for _, list := range [][]int{nil, {1}, {1, api.Evil}, {api.Evil, api.User, api.Opaque}} {
				e.Any, e.Creds, e.Cors = any, ok, list
				for _, by := range numbers() {
					for _, creds := range bools() {
						want := Lets(e, by, creds)
						if May(e, by, creds, true) != want || May(e, by, creds, false) != want {
							t.Errorf("P5.1: May by %d, creds %v, of Any %v, Creds %v, Cors %v: not %v", by, creds, any, ok, list, want)
						}
					}
				}
			}
		}
	}
}

func TestMayMethods(t *testing.T) {
	others := []string{"DELETE", "x", ""}
	for _, m := range []string{"PUT", "PATCH", "options", "\xff", "GET\x00"} {
		for at := range len(others) + 1 {
			e := api.Endpoint{Origin: 3, Method: m, Any: true, Methods: insert(others, at, m)}
			if !May(e, 1, false, false) || !May(e, 1, false, true) || May(e, 1, true, false) {
				t.Errorf("P5.1: May of %q, one of Methods at %d", m, at)
			}
		}
		for _, list := range [][]string{nil, {}, {""}, others, {strings.ToLower(m) + " "}, {m + "X", "X" + m, " " + m}, {"*"}, {"GET"}} {
			if May(api.Endpoint{Origin: 3, Method: m, Any: true, Methods: list}, 1, false, false) {
				t.Errorf("P5.1: May of %q, none of %q", m, list)
			}
		}
	}
	if May(api.Endpoint{Origin: 3, Method: "PUT", Any: true, Methods: []string{"put", "Put"}}, 1, false, false) {
		t.Error("P5.1: May: methods are what they are, small letters are others")
	}
	if !May(api.Endpoint{Origin: 3, Method: "", Any: true, Methods: []string{"PUT", ""}}, 1, false, false) {
		t.Error("P5.1: May: an empty method that is one of Methods")
	}
}

func TestMaySafeMethodIsNotAskedOfMethods(t *testing.T) {
	for _, m := range safeMethods() {
		e := api.Endpoint{Origin: 3, Method: m, Any: true, Heads: []string{"x-a"}, Allow: []string{"x-a"}}
		for _, list := range [][]string{nil, {}, {"PUT"}} {
			if e.Methods = list; !May(e, 1, false, true) {
				t.Errorf("P5.1: May of %s, with a header that is let, Methods %q", m, list)
			}
		}
	}
}

func TestMayHeads(t *testing.T) {
	for _, x := range []struct {
		heads, allow []string
		want         bool
	}{
		{nil, nil, true}, {[]string{}, []string{""}, true}, {safeHeads(), nil, true},
		{[]string{"x-a"}, []string{"x-a"}, true}, {[]string{"X-A"}, []string{"x-a"}, true}, {[]string{"x-a"}, []string{"X-A"}, true}, {[]string{"X-a"}, []string{"x-A"}, true},
		{[]string{"x-a"}, []string{"b", "c", "X-A"}, true}, {[]string{"x-a"}, []string{"b", "X-A", "c"}, true}, {[]string{"x-a", "x-b"}, []string{"X-B", "X-A"}, true}, {[]string{"x-a", "x-a"}, []string{"x-a"}, true},
		{[]string{"x-a", "range", "Accept"}, []string{"x-a"}, true}, {[]string{"range", "x-a"}, []string{"x-a"}, true},
		{[]string{""}, []string{""}, true}, {[]string{"\xff\x00"}, []string{"\xff\x00"}, true}, {[]string{"é"}, []string{"é"}, true},
		{[]string{"x-a"}, nil, false}, {[]string{"x-a"}, []string{}, false}, {[]string{"x-a"}, []string{""}, false}, {[]string{""}, nil, false}, {[]string{""}, []string{"x-a"}, false},
		{[]string{"x-a"}, []string{"*"}, false}, {[]string{"x-a"}, []string{"x-a "}, false}, {[]string{"x-a "}, []string{"x-a"}, false}, {[]string{"x-a"}, []string{"x-a, x-b"}, false}, {[]string{"x-a"}, []string{"x"}, false}, {[]string{"x"}, []string{"x-a"}, false},
		{[]string{"x-a"}, safeHeads(), false}, {[]string{"é"}, []string{"É"}, false}, {[]string{"k"}, []string{"\u212a"}, false}, {[]string{"x["}, []string{"x{"}, false}, {[]string{"x@"}, []string{"x`"}, false}, {[]string{"\xff"}, []string{"\xfe"}, false}, {[]string{"x_"}, []string{"x\x7f"}, false},
	} {
		e := api.Endpoint{Origin: 3, Method: "PUT", Methods: []string{"PUT"}, Any: true, Heads: x.heads, Allow: x.allow}
		if got := May(e, 1, false, true); got != x.want {
			t.Errorf("P5.1: May with heads %q, Allow %q: %v", x.heads, x.allow, got)
		}
		if !May(e, 1, false, false) {
			t.Errorf("P5.1: May without heads %q, Allow %q", x.heads, x.allow)
		}
		if e.Method = "DELETE"; May(e, 1, false, true) || May(e, 1, false, false) {
			t.Errorf("P5.1: May of another method with heads %q, Allow %q", x.heads, x.allow)
		}
	}
}

func TestMayOneHeadIsNotLet(t *testing.T) {
	let := []string{"x-a", "Range", "X-B"}
	for _, other := range otherHeads()[2:] {
		for at := range len(let) + 1 {
			e := api.Endpoint{Origin: 3, Method: "POST", Any: true, Heads: insert(let, at, other), Allow: []string{"X-B", "X-A"}}
			if May(e, 1, false, true) || !May(e, 1, false, false) {
				t.Errorf("P5.1: May with %q as number %d", other, at)
			}
			if e.Allow = append(e.Allow, other); !May(e, 1, false, true) {
				t.Errorf("P5.1: May with %q as number %d, and let", other, at)
			}
		}
	}
}

func TestEmptyEndpoint(t *testing.T) {
	var e api.Endpoint
	for _, by := range numbers() {
		for _, creds := range bools() {
			for _, heads := range bools() {
				own := by == 0
				if Lets(e, by, creds) != own || Ahead(e, by, creds, heads) == own || May(e, by, creds, heads) != own {
					t.Errorf("P5.1: an empty endpoint, by %d", by)
				}
			}
		}
	}
}

func TestOtherPartsDoNotCount(t *testing.T) {
	plain := api.Endpoint{Origin: 3, Method: "PUT", Heads: []string{"x-a"}}
	full := plain
	full.Name, full.Path, full.Policy = "e", "/", "script-src 'self'"
	full.Page, full.Inject, full.Own, full.Changes, full.Open = true, true, true, true, true
	full.Scripts, full.Needs, full.Sets, full.Gives, full.Redirect = []int{1, api.Evil}, []int{1}, []int{1}, []int{1}, 1
	for _, by := range numbers() {
		for _, creds := range bools() {
			if Lets(plain, by, creds) != Lets(full, by, creds) || Ahead(plain, by, creds, true) != Ahead(full, by, creds, true) || May(plain, by, creds, true) != May(full, by, creds, true) {
				t.Errorf("P5.1: what is not of CORS counts, by %d", by)
			}
		}
	}
}

func TestLongLists(t *testing.T) {
	const many = 3000
	e := api.Endpoint{Origin: 3, Method: "PUT", Cors: slices.Repeat([]int{7}, many), Methods: slices.Repeat([]string{"X"}, many), Heads: slices.Repeat([]string{"X-A"}, many), Allow: slices.Repeat([]string{"X-B"}, many)}
	e.Cors, e.Methods, e.Allow = append(e.Cors, 1), append(e.Methods, "PUT"), append(e.Allow, "x-a")
	if !Lets(e, 1, false) || !Ahead(e, 1, false, true) || !May(e, 1, false, true) || May(e, 2, false, true) {
		t.Error("P5.1: the last ones of long lists")
	}
	if e.Heads = append(e.Heads, "x-c"); May(e, 1, false, true) {
		t.Error("P5.1: the last one of many headers is not let")
	}
}

func TestEndpointStaysAsItIs(t *testing.T) {
	whole := func() ([]int, []string, []string, []string) {
		return []int{5, api.Evil, 1, 9}, []string{"X-A", "Range", "X-B", "SPARE"}, []string{"X-B", "X-A", "Spare"}, []string{"PUT", "DELETE", "Spare"}
	}
	list, heads, allow, methods := whole()
	e := api.Endpoint{Origin: 3, Method: "DELETE", Heads: heads[:3], Cors: list[:3], Creds: true, Allow: allow[:2], Methods: methods[:2]}
	for _, by := range numbers() {
		Lets(e, by, true)
		Ahead(e, by, true, true)
		May(e, by, true, true)
	}
	wantList, wantHeads, wantAllow, wantMethods := whole()
	if !slices.Equal(list, wantList) || !slices.Equal(heads, wantHeads) || !slices.Equal(allow, wantAllow) || !slices.Equal(methods, wantMethods) {
		t.Error("R4: what was handed in was changed")
	}
	if want := (api.Endpoint{Origin: 3, Method: "DELETE", Heads: wantHeads[:3], Cors: wantList[:3], Creds: true, Allow: wantAllow[:2], Methods: wantMethods[:2]}); !reflect.DeepEqual(e, want) {
		t.Errorf("R4: the endpoint was changed: %+v", e)
	}
}

func TestFromSeveralGoroutines(t *testing.T) {
	e := api.Endpoint{Origin: 3, Method: "PUT", Heads: []string{"X-A"}, Cors: []int{1}, Allow: []string{"x-a"}, Methods: []string{"PUT"}}
	var group sync.WaitGroup
	for range 8 {
		group.Go(func() {
			for range 200 {
				if !Lets(e, 1, false) || Lets(e, 1, true) || !Ahead(e, 1, false, false) || !May(e, 1, false, true) || May(e, 2, false, true) {
					t.Error("R5: another answer from several goroutines")
				}
			}
		})
	}
	group.Wait()
}

func FuzzCors(f *testing.F) {
	f.Add(3, 1, "PUT", "x-a", "X-A", "PUT", 1, true, false, true)
	f.Add(0, api.Evil, "GET", "accept", "", "", api.Evil, false, true, false)
	f.Add(api.User, api.User, "", "\xff", "\xff", "", api.User, true, true, true)
	f.Fuzz(func(t *testing.T, origin int, by int, m string, head string, allow string, method string, named int, any bool, ok bool, creds bool) {
		e := api.Endpoint{Origin: origin, Method: m, Heads: []string{head}, Any: any, Creds: ok, Cors: []int{named}, Allow: []string{allow}, Methods: []string{method}}
		lets := by == origin || by != api.User && by != api.Opaque && by == named && (ok || !creds) || any && !creds
		if Lets(e, by, creds) != lets {
			t.Errorf("P5.1: Lets(%+v, %d, %v)", e, by, creds)
		}
		plain := slices.Contains(safeMethods(), m)
		if Ahead(e, by, creds, false) != (by != origin && !plain) {
			t.Errorf("P5.1: Ahead(%+v, %d)", e, by)
		}
		if May(e, by, creds, false) != (by == origin || plain || lets && m == method) {
			t.Errorf("P5.1: May(%+v, %d, %v)", e, by, creds)
		}
		if May(e, by, creds, true) && !May(e, by, creds, false) {
			t.Errorf("P5.1: May(%+v, %d, %v) with heads, but not without", e, by, creds)
		}
	})
}
