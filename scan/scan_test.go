package scan_test

import (
	"math"
	"strconv"
	"strings"
	"testing"

	"virgation/api"
	"virgation/scan"
)

func TestIsName(t *testing.T) {
	for _, x := range []string{"a", "z", "a0", "z9", "a_", "aa", "a__0", "a0b1", strings.Repeat("z", 24), "a" + strings.Repeat("9", 23)} {
		if !scan.IsName(x) {
			t.Error(x)
		}
	}
	for _, x := range []string{"", "0", "9a", "_", "_a", "A", "aB", " a", "a ", "a b", "a-", "a.", "a\n", "a\x00", "`", "a`", "{", "a{",
		"a/", "a:", "a\u00e4", "\u0430", "a\xff", strings.Repeat("z", 25), strings.Repeat("z", 1<<20)} {
		if scan.IsName(x) {
			t.Errorf("%.30q", x)
		}
	}
}

func TestAreSymbols(t *testing.T) {
	var most []api.Symbol
	for i := range 24 {
		most = append(most, api.Symbol{Name: "x" + strconv.Itoa(i), Rank: i % 5})
	}
	for _, l := range [][]api.Symbol{nil, {}, {{Name: "a"}}, {{Name: "a", Rank: 4}, {Name: "b", Rank: 4}}, {{Name: "a"}, {Name: "aa"}, {Name: "a_"}}, most, most[:23]} {
		if !scan.AreSymbols(l) {
			t.Error(l)
		}
	}
	for _, l := range [][]api.Symbol{
		{{}}, {{Name: "_"}}, {{Name: "a"}, {Name: "A"}}, {{Name: "a"}, {Name: "a"}}, {{Name: "a"}, {Name: "b"}, {Name: "a", Rank: 1}},
		append(most[:24:24], api.Symbol{Name: "y"}), append(most[:23:23], most[0]), make([]api.Symbol, 1<<16),
		{{Name: "a", Rank: -1}}, {{Name: "a", Rank: 5}}, {{Name: "a"}, {Name: "b", Rank: math.MaxInt}}, {{Name: "a", Rank: math.MinInt}, {Name: "b"}}, {{Name: "a", Rank: 1 << 32}},
	} {
		if scan.AreSymbols(l) {
			t.Error(l[:min(len(l), 3)], len(l))
		}
	}
}

func TestReader(t *testing.T) {
	got, ok := scan.All("key name_1=120;a, b;rest", func(r *scan.Reader) []any {
		var out []any
		out = append(out, r.Skip("kex"), r.Skip(""), r.Skip("key"))
		r.Need(" ")
		out = append(out, r.Name())
		r.Need("=")
		out = append(out, r.Number(120))
		r.Need(";")
		out = append(out, r.Until(", "))
		out = append(out, r.Until(";"), r.Ended())
		r.Need("rest")
		return append(out, r.Ended(), r.Skip("x"), r.Skip(""))
	})
	want := []any{false, true, true, "name_1", 120, "a", "b", false, true, false, true}
	if !ok || len(got) != len(want) {
		t.Fatal(got, ok)
	}
	for i, x := range want {
		if got[i] != x {
			t.Error(i, got[i], x)
		}
	}
}

func TestName(t *testing.T) {
	read := func(r *scan.Reader) string { return r.Name() }
	for _, text := range []string{"a", "a1", "b_2", strings.Repeat("a", 24)} {
		if x, ok := scan.All(text, read); x != text || !ok {
			t.Error(text, x, ok)
		}
	}
	for _, text := range []string{"", "1", "_", "_a", "1a", "A", "a ", strings.Repeat("a", 25)} {
		if x, ok := scan.All(text, read); x != "" || ok {
			t.Error(text, x, ok)
		}
	}
}

// number reads a text that is a number of at most 1000.
func number(text string) (int, bool) {
	return scan.All(text, func(r *scan.Reader) int { return r.Number(1000) })
}

func TestNumber(t *testing.T) {
	for text, want := range map[string]int{"0": 0, "1": 1, "9": 9, "10": 10, "100": 100, "999": 999, "1000": 1000} {
		if n, ok := number(text); n != want || !ok {
			t.Error(text, n, ok)
		}
	}
	for _, text := range []string{"", "00", "01", "010", "-1", "-0", "+1", "1001", "10000", "1_0", "0x1", "1 ", " 1", "1.0", "a", "\u0661",
		"4294967296", "4294967297", "18446744073709551616", "18446744073709551617", strings.Repeat("1", 1000), strings.Repeat("0", 1000)} {
		if n, ok := number(text); n != 0 || ok {
			t.Error(text, n, ok)
		}
	}
}

// What is wrong, left over or ends in a panic has no result.
func TestAll(t *testing.T) {
	for name, read := range map[string]func(*scan.Reader) string{
		"Fail":   func(r *scan.Reader) string { scan.Fail(); return "x" },
		"Need":   func(r *scan.Reader) string { r.Need("b"); return "x" },
		"Need 2": func(r *scan.Reader) string { r.Need("a1 - "); r.Need(" "); return "x" },
		"Until":  func(r *scan.Reader) string { return r.Until("+") },
		"Name":   func(r *scan.Reader) string { r.Need("a"); return r.Name() },
		"Number": func(r *scan.Reader) string { r.Number(9); return "x" },
		"left":   func(r *scan.Reader) string { return r.Name() },
		"panic":  func(r *scan.Reader) string { panic("x") },
		"index":  func(r *scan.Reader) string { return []string{"x"}[len(r.Name())] },
	} {
		if x, ok := scan.All("a1 - ", read); x != "" || ok {
			t.Error(name, x, ok)
		}
	}
	if x, ok := scan.All("", func(*scan.Reader) string { return "x" }); x != "x" || !ok {
		t.Error(x, ok)
	}
}
