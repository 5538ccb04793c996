package graph_test

import (
	"cmp"
	"fmt"
	"regexp"
	"slices"
	"strings"
	"testing"

	"tollbar/api"
	"tollbar/graph"
)

// adjsThatMayBe, at the limits too, and as what texts.
func adjsThatMayBe() map[string]api.Adj {
	return map[string]api.Adj{
		"":             adj(false),
		"!":            adj(true),
		"1=5":          adj(false, 1, 5),
		"!1=5,3=2":     adj(true, 1, 5, 3, 2),
		"0=1":          adj(false, 0, 1),
		"11=1000":      adj(false, api.MaxNodes-1, api.MaxCost),
		"!9=10,10=100": adj(true, 9, 10, 10, 100),
		"0=1000,1=1000,2=1000,3=1000,4=1000,5=1000,6=1000,7=1000,8=1000,9=1000,10=1000,11=1000": adj(false, allNodes(1000)...),
	}
}

// TestCheckAdj: P2.1, what may be told, each thing that is refused, and which comes first.
func TestCheckAdj(t *testing.T) {
	for text, a := range adjsThatMayBe() {
		wantCode(t, text, graph.CheckAdj(a), api.OK)
	}
	for what, c := range refusedAdjs() {
		wantCode(t, what, graph.CheckAdj(c.a), c.code)
	}
	for node := -3; node < 20; node++ {
		for _, cost := range []int{-1, 0, 1, 2, 999, 1000, 1001} {
			want := api.ErrRange
			if 0 <= node && node < 12 && 1 <= cost && cost <= 1000 {
				want = api.OK
			}
			wantCode(t, fmt.Sprint(node, "=", cost), graph.CheckAdj(adj(true, node, cost)), want)
		}
	}
}

// TestShowAdj: P2.2, texts, and what CheckAdj refuses.
func TestShowAdj(t *testing.T) {
	for want, a := range adjsThatMayBe() {
		got, code := graph.ShowAdj(a)
		wantCode(t, want, code, api.OK)
		if got != want {
			t.Errorf("ShowAdj(%v): %q, want %q", a, got, want)
		}
	}
	for what, c := range refusedAdjs() {
		got, code := graph.ShowAdj(c.a)
		wantCode(t, what, code, c.code)
		if got != "" {
			t.Errorf("%s: %q with an error", what, got)
		}
	}
}

func wantAdj(t *testing.T, s string, want api.Adj, wanted api.Errno) {
	t.Helper()
	got, code := graph.ReadAdj(s)
	wantCode(t, fmt.Sprintf("ReadAdj(%q)", s), code, wanted)
	if !sameAdj(got, want) {
		t.Errorf("ReadAdj(%q): %v, want %v", s, got, want)
	}
}

// written: only numbers that a text may tell, none below 0 and none of more than six digits.
var written = regexp.MustCompile(`^!?[0-9]{1,6}([=/,][0-9]{1,6})*$`)

// TestReadAdj: P2.2, what is told is read, and what CheckAdj refuses is refused.
func TestReadAdj(t *testing.T) {
	for s, want := range adjsThatMayBe() {
		wantAdj(t, s, want, api.OK)
	}
	for _, c := range refusedAdjs() {
		if s := told(c.a); written.MatchString(s) {
			wantAdj(t, s, api.Adj{}, c.code)
		}
	}
}

// notNumbers: as numbers none of them is written.
func notNumbers() []string {
	return []string{"", " ", "+1", "-1", "-0", "00", "01", "007", "1 ", " 1", "1.0", "1e1", "0x1", "1_0", "a", "!", "١", "1\x00", "\n", "100001", "999999", "1000000", "0100000", "99999999999999999999", strings.Repeat("9", 5000), strings.Repeat("0", 5000)}
}

// TestReadAdjForm: P2.2, texts that tell nothing, ahead of what CheckAdj refuses.
func TestReadAdjForm(t *testing.T) {
	for _, s := range []string{
		",", "!,", "!!", "!!1=5", "1=5!", "1!=5", " !", "! ", "=", "1=", "=5", "1", "12345", "1=5,", ",1=5", "1=5,,2=5", "1=5;2=5", "1=5 ,2=5",
		"1=5, 2=5", "1==5", "1=5=6", "1/5", "1:5", "1=5,2", "1=5,2=", "1=5,=2", "1=5\n", "１=5", "1=5,!2=5", "!,1=5", "\xff", "1=5\x00",
	} {
		wantAdj(t, s, api.Adj{}, api.ErrForm)
		wantAdj(t, "!"+s+",", api.Adj{}, api.ErrForm)
		wantAdj(t, "99=9999,3=5,2=5,"+s, api.Adj{}, api.ErrForm)
	}
	for _, n := range notNumbers() {
		for _, s := range []string{n + "=5", "1=" + n, "!" + n + "=5", "0=1,1=" + n, n + "=5,3=1", "99=" + n} {
			wantAdj(t, s, api.Adj{}, api.ErrForm)
		}
	}
}

// TestReadAdjNumbers: P2.2, numbers up to 100000 are read, and refused as CheckAdj refuses them.
func TestReadAdjNumbers(t *testing.T) {
	for _, n := range []int{0, 12, 13, 99, 100, 1001, 9999, 10000, 99999, 100000} {
		wantAdj(t, fmt.Sprint("1=1,", max(n, 12), "=1"), api.Adj{}, api.ErrRange)
		if n == 0 || n > 1000 {
			wantAdj(t, fmt.Sprint("!1=", n), api.Adj{}, api.ErrRange)
		}
	}
	for n := 1; n <= 1000; n++ {
		wantAdj(t, fmt.Sprint(n%12, "=", n), adj(false, n%12, n), api.OK)
	}
	for _, n := range []int{100001, 100002, 200000, 1000000, 1000001} {
		wantAdj(t, fmt.Sprint("1=", n), api.Adj{}, api.ErrForm)
		wantAdj(t, fmt.Sprint(n, "=1"), api.Adj{}, api.ErrForm)
	}
}

// prefixesThatMayBe, at the limits too, and as what texts.
func prefixesThatMayBe() map[string][]api.Prefix {
	return map[string][]api.Prefix{
		"":                                    nil,
		"0/0":                                 prefixes(0, 0),
		"128/1":                               prefixes(128, 1),
		"255/8":                               prefixes(api.MaxAddr, api.Bits),
		"254/7,255/8":                         prefixes(254, 7, 255, 8),
		"0/0,0/1,0/8,1/8,2/7,2/8":             prefixes(0, 0, 0, 1, 0, 8, 1, 8, 2, 7, 2, 8),
		"9/8,64/3,100/8":                      prefixes(9, 8, 64, 3, 100, 8),
		"250/8,251/8,252/8,253/8,254/8,255/8": prefixes(250, 8, 251, 8, 252, 8, 253, 8, 254, 8, 255, 8),
		"128/1,128/2,128/3,128/4,128/5,128/8": prefixes(128, 1, 128, 2, 128, 3, 128, 4, 128, 5, 128, 8),
		"0/8,64/2,128/1,192/2,224/3,240/4":    prefixes(0, 8, 64, 2, 128, 1, 192, 2, 224, 3, 240, 4),
		"10/8,20/6,40/5,80/4,160/3,200/5":     prefixes(10, 8, 20, 6, 40, 5, 80, 4, 160, 3, 200, 5),
		"0/2,0/3,0/4,64/2,128/2,192/2":        prefixes(0, 2, 0, 3, 0, 4, 64, 2, 128, 2, 192, 2),
	}
}

// TestCheckPrefixes: P2.3, what may be told, each thing that is refused, and which comes first.
func TestCheckPrefixes(t *testing.T) {
	for text, l := range prefixesThatMayBe() {
		wantCode(t, text, graph.CheckPrefixes(l), api.OK)
	}
	for what, c := range refusedPrefixes() {
		wantCode(t, what, graph.CheckPrefixes(c.l), c.code)
	}
}

// TestEachPrefix: P2.3, each address with each number of bits, bit by bit.
func TestEachPrefix(t *testing.T) {
	for addr := -2; addr <= 258; addr++ {
		for bits := -2; bits <= 10; bits++ {
			want := api.OK
			if addr < 0 || addr > 255 || bits < 0 || bits > 8 {
				want = api.ErrRange
			} else if strings.Contains(fmt.Sprintf("%08b", addr)[bits:], "1") {
				want = api.ErrForm
			}
			wantCode(t, fmt.Sprint(addr, "/", bits), graph.CheckPrefixes(prefixes(addr, bits)), want)
		}
	}
}

// TestPrefixOrder: P2.3, any two prefixes, by Addr, then by Bits.
func TestPrefixOrder(t *testing.T) {
	l := prefixes(0, 0, 0, 1, 0, 7, 0, 8, 1, 8, 2, 7, 2, 8, 128, 1, 128, 2, 128, 8, 129, 8, 192, 2, 255, 8)
	for i, a := range l {
		for j, b := range l {
			want := api.ErrOrder
			if i < j {
				want = api.OK
			}
			wantCode(t, fmt.Sprint(a, b), graph.CheckPrefixes([]api.Prefix{a, b}), want)
			if got := graph.ComparePrefixes(a, b); cmp.Compare(got, 0) != cmp.Compare(i, j) {
				t.Errorf("ComparePrefixes(%v, %v): %d", a, b, got)
			}
		}
	}
}

// TestShowPrefixes: P2.3, texts, and what CheckPrefixes refuses.
func TestShowPrefixes(t *testing.T) {
	for want, l := range prefixesThatMayBe() {
		got, code := graph.ShowPrefixes(l)
		wantCode(t, want, code, api.OK)
		if got != want {
			t.Errorf("ShowPrefixes(%v): %q, want %q", l, got, want)
		}
	}
	for what, c := range refusedPrefixes() {
		got, code := graph.ShowPrefixes(c.l)
		wantCode(t, what, code, c.code)
		if got != "" {
			t.Errorf("%s: %q with an error", what, got)
		}
	}
}

func wantPrefixes(t *testing.T, s string, want []api.Prefix, wanted api.Errno) {
	t.Helper()
	got, code := graph.ReadPrefixes(s)
	wantCode(t, fmt.Sprintf("ReadPrefixes(%q)", s), code, wanted)
	if !slices.Equal(got, want) {
		t.Errorf("ReadPrefixes(%q): %v, want %v", s, got, want)
	}
}

// TestReadPrefixes: P2.3, what is told is read, and what CheckPrefixes refuses is refused.
func TestReadPrefixes(t *testing.T) {
	for s, want := range prefixesThatMayBe() {
		wantPrefixes(t, s, want, api.OK)
	}
	for _, c := range refusedPrefixes() {
		if s := toldPrefixes(c.l); written.MatchString(s) {
			wantPrefixes(t, s, nil, c.code)
		}
	}
	for _, n := range []int{256, 999, 1000, 99999, 100000} {
		wantPrefixes(t, fmt.Sprint(n, "/8"), nil, api.ErrRange)
		wantPrefixes(t, fmt.Sprint("0/", n), nil, api.ErrRange)
	}
}

// TestReadPrefixesForm: P2.3, texts that tell nothing, ahead of what CheckPrefixes refuses.
func TestReadPrefixesForm(t *testing.T) {
	for _, s := range []string{
		",", "!", "!0/0", "/", "0/", "/0", "0", "12345", "0/0,", ",0/0", "0/0,,1/8", "0/0;1/8", "0/0 ,1/8", "0/0, 1/8", "0//0", "0/0/0", "0=0", "1=5",
		"0/0,1", "0/0,1/", "0/0,/8", "0/0\n", "０/0", "0/0,!1/8", "\xff", "0/0\x00",
	} {
		wantPrefixes(t, s, nil, api.ErrForm)
		wantPrefixes(t, s+",", nil, api.ErrForm)
		wantPrefixes(t, strings.Repeat("300/9,1/1,0/0,", 5)+s, nil, api.ErrForm)
	}
	for _, n := range notNumbers() {
		for _, s := range []string{n + "/0", "0/" + n, "0/0,128/" + n, n + "/8,3/8", "300/" + n} {
			wantPrefixes(t, s, nil, api.ErrForm)
		}
	}
}

// TestReadDrawn: P2.2 and P2.3, texts of few letters: what is read is what is shown so, and all else is in no form or refused.
func TestReadDrawn(t *testing.T) {
	number := `(0|[1-9][0-9]{0,4}|100000)`
	sides := regexp.MustCompile(`^!?(` + number + `=` + number + `(,` + number + `=` + number + `)*)?$`)
	list := regexp.MustCompile(`^(` + number + `/` + number + `(,` + number + `/` + number + `)*)?$`)
	parts := []string{"0", "1", "2", "8", "10", "128", "1000", "100000", "=", "/", "=1", "1=1", "2=3", "0/0", "128/1", ",", ",", ",", "!"}
	d := die(23)
	for range 30000 {
		s := ""
		for range d.N(9) {
			s += parts[d.N(len(parts))]
		}
		a, code := graph.ReadAdj(s)
		if (code != api.ErrForm) != sides.MatchString(s) {
			t.Fatalf("ReadAdj(%q): code %d", s, code)
		}
		if back, _ := graph.ShowAdj(a); code == api.OK && back != s || code != api.OK && !sameAdj(a, api.Adj{}) {
			t.Fatalf("ReadAdj(%q): %v %d, which is shown as %q", s, a, code, back)
		}
		l, code := graph.ReadPrefixes(s)
		if code != api.ErrForm && !list.MatchString(s) {
			t.Fatalf("ReadPrefixes(%q): code %d", s, code)
		}
		if back, _ := graph.ShowPrefixes(l); code == api.OK && back != s || code != api.OK && len(l) > 0 {
			t.Fatalf("ReadPrefixes(%q): %v %d, which is shown as %q", s, l, code, back)
		}
	}
}
