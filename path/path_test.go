package path_test

import (
	"slices"
	"strings"
	"testing"

	"sieve/path"
)

// A1.
func TestPartsAndBase(t *testing.T) {
	for _, c := range []struct {
		s     string
		parts []string
		base  string
	}{
		{"", nil, ""},
		{"/", nil, "/"},
		{"//", nil, "/"},
		{"///", nil, "/"},
		{"a", []string{"a"}, "a"},
		{"/a", []string{"a"}, "a"},
		{"a/", []string{"a"}, "a"},
		{"/a/", []string{"a"}, "a"},
		{"//a//", []string{"a"}, "a"},
		{"a/b", []string{"a", "b"}, "b"},
		{"/a/b/", []string{"a", "b"}, "b"},
		{"a//b", []string{"a", "b"}, "b"},
		{"a/a/a", []string{"a", "a", "a"}, "a"},
		{".", []string{"."}, "."},
		{"..", []string{".."}, ".."},
		{"./../.", []string{".", "..", "."}, "."},
		{"a/..", []string{"a", ".."}, ".."},
		{" /\t/\n", []string{" ", "\t", "\n"}, "\n"},
		{"a\\/b", []string{"a\\", "b"}, "b"},
		{"\x00/\xff\xfe", []string{"\x00", "\xff\xfe"}, "\xff\xfe"},
		{"ä/ö", []string{"ä", "ö"}, "ö"},
	} {
		if got := path.Parts(c.s); !slices.Equal(got, c.parts) {
			t.Errorf("Parts(%q) = %q, want %q", c.s, got, c.parts)
		}
		if got := path.Base(c.s); got != c.base {
			t.Errorf("Base(%q) = %q, want %q", c.s, got, c.base)
		}
	}
}

// A1: all texts of up to seven bytes of a small alphabet, against the words of
// the promise.
func TestPartsAndBaseOfAllShortTexts(t *testing.T) {
	texts := []string{""}
	for range 7 {
		for _, s := range slices.Clone(texts) {
			for _, c := range []string{"/", "a", "."} {
				texts = append(texts, s+c)
			}
		}
		slices.Sort(texts)
		texts = slices.Compact(texts)
	}
	for _, s := range texts {
		parts := slices.DeleteFunc(strings.Split(s, "/"), func(p string) bool { return p == "" })
		if got := path.Parts(s); !slices.Equal(got, parts) {
			t.Fatalf("Parts(%q) = %q, want %q", s, got, parts)
		}
		base := ""
		if len(parts) > 0 {
			base = parts[len(parts)-1]
		} else if strings.Contains(s, "/") {
			base = "/"
		}
		if got := path.Base(s); got != base {
			t.Fatalf("Base(%q) = %q, want %q", s, got, base)
		}
	}
}

func TestPartsIsNewMemory(t *testing.T) {
	first := path.Parts("/a/b")
	first[0] = "z"
	if again := path.Parts("/a/b"); again[0] != "a" {
		t.Errorf("Parts answers memory that it has handed out: %q", again)
	}
}

func TestLongPaths(t *testing.T) {
	const names = 100000
	long := strings.Repeat("/ab", names)
	if got := len(path.Parts(long)); got != names {
		t.Errorf("Parts of %d names answers %d", names, got)
	}
	if got := path.Base(strings.Repeat("/", names)); got != "/" {
		t.Errorf("Base of many / = %q", got)
	}
}

// A1.
func TestJoin(t *testing.T) {
	for _, c := range []struct{ a, b, want string }{
		{"", "", ""},
		{"", "b", "b"},
		{"", "/b", "/b"},
		{"a", "b", "a/b"},
		{"a", "", "a/"},
		{"a/", "", "a/"},
		{"a/", "b", "a/b"},
		{"a//", "b", "a//b"},
		{"a", "/b", "a//b"},
		{"a/", "/b", "a//b"},
		{"/", "b", "/b"},
		{"/", "", "/"},
		{"//", "b", "//b"},
		{"/a/b", "c/d/", "/a/b/c/d/"},
		{".", "..", "./.."},
		{"a\\", "b", "a\\/b"},
	} {
		if got := path.Join(c.a, c.b); got != c.want {
			t.Errorf("Join(%q, %q) = %q, want %q", c.a, c.b, got, c.want)
		}
	}
}

// A2.
func TestSize(t *testing.T) {
	for _, c := range []struct {
		s    string
		want int
	}{
		{"0", 0},
		{"1", 512},
		{"3", 1536},
		{"0c", 0},
		{"1c", 1},
		{"5c", 5},
		{"1k", 1024},
		{"12k", 12288},
		{"1M", 1048576},
		{"3M", 3145728},
		{"1G", 1073741824},
		{"0G", 0},
		{"000000001", 512},
		{"000000001k", 1024},
		{"999999999", 511999999488},
		{"999999999c", 999999999},
		{"999999999k", 1023999998976},
		{"999999999M", 1048575998951424},
		{"999999999G", 1073741822926258176},
	} {
		if got, ok := path.Size(c.s); got != c.want || !ok {
			t.Errorf("Size(%q) = %d, %v, want %d, true", c.s, got, ok, c.want)
		}
	}
}

// A2.
func TestSizeOfOtherTexts(t *testing.T) {
	for _, s := range []string{
		"", "c", "k", "M", "G", "kk", "1kk", "1ck", "k1", "1k1", "1K", "1m", "1g", "1C", "1b", "1w",
		"-1", "+1", "-1k", " 1", "1 ", "1 k", "1\n", "1k\n", "\t1", "1.5", "1.5k", "1e3", "0x1", "1_0", "1,0",
		"1234567890", "0000000000", "0000000001", "1234567890k", "0000000001G",
		"١", "1١", "1\x00", "\xff", strings.Repeat("1", 100000),
	} {
		if got, ok := path.Size(s); got != 0 || ok {
			t.Errorf("Size(%q) = %d, %v, want 0, false", s, got, ok)
		}
	}
}

// A2: of all bytes behind a digit.
func TestSizeUnits(t *testing.T) {
	units := map[byte]int{'c': 1, 'k': 1024, 'M': 1048576, 'G': 1073741824}
	for c := range 256 {
		s := "2" + string([]byte{byte(c)})
		want, ok := 2*units[byte(c)], units[byte(c)] > 0
		if c >= '0' && c <= '9' {
			want, ok = 512*(20+c-'0'), true
		}
		if got, gotOk := path.Size(s); got != want || gotOk != ok {
			t.Errorf("Size(%q) = %d, %v, want %d, %v", s, got, gotOk, want, ok)
		}
	}
}
