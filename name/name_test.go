package name_test

import (
	"fmt"
	"slices"
	"strings"
	"testing"
	"unicode/utf8"
	"unsafe"

	"kintsugi/api"
	"kintsugi/name"
)

const (
	name24 = "abcdefghijklmnopqrstuvwx"
	name25 = name24 + "y"
)

// encoding is bytes that are one rune, or none.
type encoding struct {
	s     string
	one   bool
	runes int
}

// encodings are the edges of UTF-8: the least and the greatest rune of each length, what lies beside them, and runes that are cut off.
func encodings() []encoding {
	return []encoding{
		{"\x01", true, 1},
		{"\x7f", true, 1},
		{"\x80", false, 1}, // begins none
		{"\xbf", false, 1},
		{"\xc0\x80", false, 2}, // 0, in more bytes than it needs
		{"\xc0\xaf", false, 2}, // a slash, so too
		{"\xc1\xbf", false, 2},
		{"\xc2\x7f", false, 2},
		{"\xc2\x80", true, 1},
		{"\xdf\xbf", true, 1},
		{"\xdf\xc0", false, 2},
		{"\xdf", false, 1},
		{"\xe0\x80\x80", false, 3},
		{"\xe0\x9f\xbf", false, 3},
		{"\xe0\xa0\x80", true, 1},
		{"\xe0\xa0", false, 2},
		{"\xe2\x82\xac", true, 1},
		{"\xe2\x82", false, 2},
		{"\xe2", false, 1},
		{"\xed\x9f\xbf", true, 1},  // d7ff
		{"\xed\xa0\x80", false, 3}, // d800
		{"\xed\xaf\xbf", false, 3},
		{"\xed\xb0\x80", false, 3},
		{"\xed\xbf\xbf", false, 3}, // dfff
		{"\xee\x80\x80", true, 1},  // e000
		{"\xef\xbb\xbf", true, 1},
		{"\xef\xbf\xbc", true, 1},
		{"\xef\xbf\xbd", true, 1}, // fffd, which stands for bytes that are no rune
		{"\xef\xbf\xbe", true, 1},
		{"\xef\xbf\xbf", true, 1},
		{"\xef\xbf", false, 2},
		{"\xf0\x80\x80\x80", false, 4},
		{"\xf0\x8f\xbf\xbf", false, 4},
		{"\xf0\x90\x80\x80", true, 1},
		{"\xf0\x90\x80", false, 3},
		{"\xf4\x8f\xbf\xbf", true, 1},  // 10ffff
		{"\xf4\x90\x80\x80", false, 4}, // 110000
		{"\xf5\x80\x80\x80", false, 4},
		{"\xf8\x88\x80\x80\x80", false, 5},
		{"\xfe", false, 1},
		{"\xff", false, 1},
	}
}

// around are texts into which another is put.
func around() [][2]string {
	return [][2]string{{"", ""}, {"a", ""}, {"", "a"}, {"a", "b"}, {"\uFFFD", ""}, {"", "\uFFFD"}, {"€", "€"}, {"..", ".."}}
}

// shown is a path for a test's remark.
func shown(p name.Path) string {
	return fmt.Sprintf("absolute %v, %q, a directory %v", p.Abs, p.Parts, p.Slash)
}

// check says where Check does not answer what is wanted.
func check(t *testing.T, s string, want api.Errno) {
	t.Helper()
	if got := name.Check(s); got != want {
		t.Errorf("Check(%q): %v, want %v", s, got, want)
	}
}

// refused says where Split does not refuse a path as is wanted, or tells anything beside.
func refused(t *testing.T, path string, want api.Errno) {
	t.Helper()
	p, got := name.Split(path)
	if got != want || p.Abs || len(p.Parts) > 0 || p.Slash {
		t.Errorf("Split(%q): %s, %v, want nothing, %v", path, shown(p), got, want)
	}
}

// told says where Split does not tell what is wanted of a path.
func told(t *testing.T, path string, abs bool, parts []string, slash bool) {
	t.Helper()
	p, e := name.Split(path)
	if e != api.OK || p.Abs != abs || !slices.Equal(p.Parts, parts) || p.Slash != slash {
		t.Errorf("Split(%q): %s, %v, want %s", path, shown(p), e, shown(name.Path{Abs: abs, Parts: parts, Slash: slash}))
	}
}

// texts hands each text of these pieces, of up to n of them, to a function.
func texts(n int, pieces []string, do func(string)) {
	var deeper func(s string, n int)
	deeper = func(s string, n int) {
		do(s)
		for _, p := range pieces {
			if n > 0 {
				deeper(s+p, n-1)
			}
		}
	}
	deeper("", n)
}

// plainFault is a text's first one, rune by rune as the library takes them.
func plainFault(s, wrong string) api.Errno {
	for s != "" {
		r, n := utf8.DecodeRuneInString(s)
		switch {
		case r == utf8.RuneError && n == 1:
			return api.EILSEQ
		case strings.ContainsRune(wrong, r):
			return api.EINVAL
		}
		s = s[n:]
	}
	return api.OK
}

// plainCheck is what Check is to answer.
func plainCheck(s string) api.Errno {
	if e := plainFault(s, "\x00/"); e != api.OK {
		return e
	}
	if s == "" || s == "." || s == ".." {
		return api.EINVAL
	}
	if len(s) > api.MaxName {
		return api.ENAMETOOLONG
	}
	return api.OK
}

// plainSplit is what Split is to answer.
func plainSplit(path string) (name.Path, api.Errno) {
	if path == "" {
		return name.Path{}, api.ENOENT
	}
	if len(path) > api.MaxPath {
		return name.Path{}, api.ENAMETOOLONG
	}
	if e := plainFault(path, "\x00"); e != api.OK {
		return name.Path{}, e
	}
	full := slices.DeleteFunc(strings.Split(path, "/"), func(s string) bool { return s == "" })
	last := ""
	if len(full) > 0 {
		last = full[len(full)-1]
	}
	p := name.Path{
		Abs:   path[0] == '/',
		Slash: path[len(path)-1] == '/' || last == "." || last == "..",
		Parts: slices.DeleteFunc(full, func(s string) bool { return s == "." }),
	}
	if slices.ContainsFunc(p.Parts, func(s string) bool { return len(s) > api.MaxName }) {
		return name.Path{}, api.ENAMETOOLONG
	}
	return p, api.OK
}

// same is whether two paths tell the same.
func same(p, q name.Path) bool {
	return p.Abs == q.Abs && p.Slash == q.Slash && slices.Equal(p.Parts, q.Parts)
}

// P3.3: the chapter's examples.
func TestExamples(t *testing.T) {
	told(t, "//a/./b/", true, []string{"a", "b"}, true)
	told(t, "a/..", false, []string{"a", ".."}, true)
	told(t, "/", true, nil, true)
	refused(t, "a\xff", api.EILSEQ)
}

// P3.1: names that may be, and each error that there is.
func TestCheck(t *testing.T) {
	for s, want := range map[string]api.Errno{
		"a":                        api.OK,
		" ":                        api.OK,
		"a b":                      api.OK,
		"\\":                       api.OK,
		"\n":                       api.OK,
		"...":                      api.OK,
		".a":                       api.OK,
		"a.":                       api.OK,
		"..a":                      api.OK,
		". ":                       api.OK,
		"€":                        api.OK,
		"\uFFFD":                   api.OK,
		"\U0010FFFF":               api.OK,
		"\uFFFD\uFFFD\uFFFD":       api.OK,
		"":                         api.EINVAL,
		".":                        api.EINVAL,
		"..":                       api.EINVAL,
		"/":                        api.EINVAL,
		"a/":                       api.EINVAL,
		"/a":                       api.EINVAL,
		"a/b":                      api.EINVAL,
		"\x00":                     api.EINVAL,
		"a\x00":                    api.EINVAL,
		"\x00a":                    api.EINVAL,
		"\xff":                     api.EILSEQ,
		"\uFFFD\xff":               api.EILSEQ,
		"\xef\xbf\xef\xbf\xbd":     api.EILSEQ,
		"\xc0\x80":                 api.EILSEQ,
		"\xed\xa0\x80":             api.EILSEQ,
		"\xed\xa0\xbd\xed\xb8\x80": api.EILSEQ, // one rune as two halves
	} {
		check(t, s, want)
	}
}

// P3.1: MaxName is of bytes, not of runes.
func TestCheckLength(t *testing.T) {
	for s, want := range map[string]api.Errno{
		name24[:23]:                    api.OK,
		name24:                         api.OK,
		name25:                         api.ENAMETOOLONG,
		strings.Repeat(".", 24):        api.OK,
		strings.Repeat(".", 25):        api.ENAMETOOLONG,
		strings.Repeat("ä", 12):        api.OK,
		strings.Repeat("ä", 12) + "a":  api.ENAMETOOLONG,
		strings.Repeat("ä", 13):        api.ENAMETOOLONG,
		strings.Repeat("€", 8):         api.OK,
		strings.Repeat("€", 9):         api.ENAMETOOLONG,
		strings.Repeat("𝄞", 6):         api.OK,
		strings.Repeat("𝄞", 7):         api.ENAMETOOLONG,
		strings.Repeat("a", 1<<20):     api.ENAMETOOLONG,
		strings.Repeat("a", 257):       api.ENAMETOOLONG,
		strings.Repeat("\uFFFD", 1000): api.ENAMETOOLONG,
	} {
		check(t, s, want)
	}
}

// P3.1: of several errors the fault is told, and of several faults the first one, wherever they are.
func TestCheckOrder(t *testing.T) {
	for s, want := range map[string]api.Errno{
		"\xffa/":                            api.EILSEQ,
		"/\xff":                             api.EINVAL,
		"\x00\xff":                          api.EINVAL,
		"\xff\x00":                          api.EILSEQ,
		"\xe2\x82/":                         api.EILSEQ,
		"a/\xe2\x82":                        api.EINVAL,
		".\xff":                             api.EILSEQ,
		"..\x00\xff":                        api.EINVAL,
		name24 + "\xff":                     api.EILSEQ,
		name24 + "/":                        api.EINVAL,
		name24 + "\x00":                     api.EINVAL,
		name25 + "\xff/":                    api.EILSEQ,
		name25 + "/\xff":                    api.EINVAL,
		name25 + name25 + "\x00a":           api.EINVAL,
		name24 + "\xe2\x82":                 api.EILSEQ,
		strings.Repeat("a", 1<<16) + "\xff": api.EILSEQ,
		strings.Repeat("a", 1<<16) + "/":    api.EINVAL,
	} {
		check(t, s, want)
	}
}

// P3.1, P3.2, P3.3: each number as UTF-8 would tell it: runes, 0, the slash, the point, and what is no rune.
func TestAllRunes(t *testing.T) {
	for r := rune(0); r <= 0x10ffff; r++ {
		s := string(r)
		wantName, wantPath := api.OK, api.OK
		switch {
		case 0xd800 <= r && r <= 0xdfff:
			s = string([]byte{0xed, byte(0x80 | r>>6&0x3f), byte(0x80 | r&0x3f)})
			wantName, wantPath = api.EILSEQ, api.EILSEQ
		case r == 0:
			wantName, wantPath = api.EINVAL, api.EINVAL
		case r == '/', r == '.':
			wantName = api.EINVAL
		}
		wantRunes := 1
		if wantName == api.EILSEQ {
			wantRunes = 3
		}
		if got := name.Check(s); got != wantName {
			t.Fatalf("Check of %x: %v, want %v", r, got, wantName)
		}
		if _, got := name.Split(s); got != wantPath {
			t.Fatalf("Split of %x: %v, want %v", r, got, wantPath)
		}
		if got := name.Runes(s); got != wantRunes {
			t.Fatalf("Runes of %x: %d, want %d", r, got, wantRunes)
		}
	}
}

// P3.1, P3.2, P3.3: the edges of UTF-8, alone, and with texts ahead and behind.
func TestEncodings(t *testing.T) {
	for _, c := range encodings() {
		want := api.EILSEQ
		if c.one {
			want = api.OK
		}
		for _, a := range around() {
			s := a[0] + c.s + a[1]
			check(t, s, want)
			if got, want := name.Runes(s), c.runes+utf8.RuneCountInString(a[0]+a[1]); got != want {
				t.Errorf("Runes(%q): %d, want %d", s, got, want)
			}
			path := "/x/" + s + "/y"
			if c.one {
				told(t, path, true, []string{"x", s, "y"}, false)
			} else {
				refused(t, path, api.EILSEQ)
			}
		}
	}
}

// P3.2: each rune counts as one, and so does each byte at which none begins.
func TestRunes(t *testing.T) {
	for s, want := range map[string]int{
		"":                            0,
		"a":                           1,
		"\x00":                        1,
		"\x00\x00/.":                  4,
		"abc":                         3,
		"a€":                          2,
		"a€\xff\xff":                  4,
		"\uFFFD":                      1,
		"\uFFFD\uFFFD":                2,
		"\uFFFD\xff\uFFFD":            3,
		"\xe2\x82":                    2,
		"\xe2\x82a":                   3,
		"\xe2\x82\xe2\x82\xac":        3,
		"\xf0\x9d\x84":                3,
		"\U0010FFFF":                  1,
		"e\u0301":                     2, // a letter with its accent is two
		"\xed\xa0\xbd\xed\xb8\x80":    6,
		strings.Repeat("€", 1<<16):    1 << 16,
		strings.Repeat("\xff", 1<<16): 1 << 16,
	} {
		if got := name.Runes(s); got != want {
			t.Errorf("Runes(%.40q): %d, want %d", s, got, want)
		}
	}
}

// P3.3: absolute or not, parts that stay and parts that don't, each way of asking for a directory.
func TestSplit(t *testing.T) {
	for _, c := range []struct {
		path  string
		abs   bool
		parts []string
		slash bool
	}{
		{"a", false, []string{"a"}, false},
		{"/a", true, []string{"a"}, false},
		{"a/", false, []string{"a"}, true},
		{"/a/", true, []string{"a"}, true},
		{"//", true, nil, true},
		{"///", true, nil, true},
		{".", false, nil, true},
		{"./", false, nil, true},
		{"./.", false, nil, true},
		{"/.", true, nil, true},
		{"/./", true, nil, true},
		{"//.//", true, nil, true},
		{"..", false, []string{".."}, true},
		{"../", false, []string{".."}, true},
		{"/..", true, []string{".."}, true},
		{"../..", false, []string{"..", ".."}, true},
		{"../a", false, []string{"..", "a"}, false},
		{"./a", false, []string{"a"}, false},
		{"a/.", false, []string{"a"}, true},
		{"a/./", false, []string{"a"}, true},
		{"a/.//", false, []string{"a"}, true},
		{"a/./.", false, []string{"a"}, true},
		{"a//", false, []string{"a"}, true},
		{"a//b", false, []string{"a", "b"}, false},
		{"a/./b", false, []string{"a", "b"}, false},
		{"a/../b", false, []string{"a", "..", "b"}, false},
		{"a/../.", false, []string{"a", ".."}, true},
		{"a/b/..", false, []string{"a", "b", ".."}, true},
		{"./..", false, []string{".."}, true},
		{"a/...", false, []string{"a", "..."}, false},
		{"a/.b", false, []string{"a", ".b"}, false},
		{"a/b.", false, []string{"a", "b."}, false},
		{"a/..b", false, []string{"a", "..b"}, false},
		{"a/b..", false, []string{"a", "b.."}, false},
		{"a/. ", false, []string{"a", ". "}, false},
		{" /a", false, []string{" ", "a"}, false},
		{"a/a/a", false, []string{"a", "a", "a"}, false},
		{"b/a", false, []string{"b", "a"}, false},
		{"€/\uFFFD/𝄞", false, []string{"€", "\uFFFD", "𝄞"}, false},
		{"\uFFFD/", false, []string{"\uFFFD"}, true},
		{"a\\b", false, []string{"a\\b"}, false},
	} {
		told(t, c.path, c.abs, c.parts, c.slash)
	}
}

// P3.3: the lengths of paths and of parts, up to their limits and behind them.
func TestSplitLength(t *testing.T) {
	longest := strings.Repeat(name24[:15]+"/", 16) // MaxPath bytes
	told(t, longest, false, slices.Repeat([]string{name24[:15]}, 16), true)
	refused(t, longest+"/", api.ENAMETOOLONG)
	refused(t, longest+"a", api.ENAMETOOLONG)
	told(t, strings.Repeat("/", 256), true, nil, true)
	refused(t, strings.Repeat("/", 257), api.ENAMETOOLONG)
	refused(t, strings.Repeat("/", 1<<20), api.ENAMETOOLONG)
	told(t, strings.Repeat("./", 128), false, nil, true)
	refused(t, strings.Repeat("./", 128)+".", api.ENAMETOOLONG)
	told(t, strings.Repeat("a/", 128), false, slices.Repeat([]string{"a"}, 128), true)
	euros := strings.Repeat("€", 8) // few runes, many bytes
	told(t, strings.Repeat(euros+"/", 10), false, slices.Repeat([]string{euros}, 10), true)
	refused(t, strings.Repeat(euros+"/", 11), api.ENAMETOOLONG)
	told(t, name24, false, []string{name24}, false)
	told(t, "/"+name24+"/"+name24+"/", true, []string{name24, name24}, true)
	for _, path := range []string{
		name25, "/" + name25, name25 + "/", "a/" + name25, name25 + "/a", "a/" + name25 + "/b", name24 + "/" + name25,
		strings.Repeat(".", 25), strings.Repeat("€", 9), "../" + name25, "./" + name25 + "/..",
	} {
		refused(t, path, api.ENAMETOOLONG)
	}
}

// P3.3: the errors, in their order.
func TestSplitOrder(t *testing.T) {
	long := strings.Repeat("a/", 128)
	for _, c := range []struct {
		path string
		want api.Errno
	}{
		{"", api.ENOENT},
		{"\x00", api.EINVAL},
		{"a\x00", api.EINVAL},
		{"a/b/\x00", api.EINVAL},
		{"\xff", api.EILSEQ},
		{"/\xff", api.EILSEQ},
		{"\xff/", api.EILSEQ},
		{"a/\xe2\x82/\xac", api.EILSEQ}, // a slash within a rune
		{"\xff\x00", api.EILSEQ},
		{"\x00\xff", api.EINVAL},
		{"a/\x00/\xff", api.EINVAL},
		{"a/\xff/\x00", api.EILSEQ},
		{long + "\xff", api.ENAMETOOLONG},
		{"\xff" + long, api.ENAMETOOLONG},
		{"\x00" + long, api.ENAMETOOLONG},
		{long + "\x00", api.ENAMETOOLONG},
		{long[:255] + "\xff", api.EILSEQ},
		{long[:255] + "\x00", api.EINVAL},
		{name25 + "/\xff", api.EILSEQ},
		{name25 + "/\x00", api.EINVAL},
		{name25 + "\xff", api.EILSEQ},
		{name25 + "\x00", api.EINVAL},
		{strings.Repeat("a", 256), api.ENAMETOOLONG},
		{strings.Repeat("a", 255) + "\x00", api.EINVAL},
		{strings.Repeat("a", 257), api.ENAMETOOLONG},
	} {
		refused(t, c.path, c.want)
	}
}

// P3.4: of parts, with and without a slash ahead and behind; of two points behind, and elsewhere; of no parts.
func TestJoin(t *testing.T) {
	for _, c := range []struct {
		p    name.Path
		want string
	}{
		{name.Path{}, "."},
		{name.Path{Parts: []string{}}, "."},
		{name.Path{Slash: true}, "."},
		{name.Path{Abs: true}, "/"},
		{name.Path{Abs: true, Slash: true}, "/"},
		{name.Path{Abs: true, Parts: []string{}, Slash: true}, "/"},
		{name.Path{Parts: []string{"a"}}, "a"},
		{name.Path{Parts: []string{"a"}, Slash: true}, "a/"},
		{name.Path{Abs: true, Parts: []string{"a"}}, "/a"},
		{name.Path{Abs: true, Parts: []string{"a"}, Slash: true}, "/a/"},
		{name.Path{Parts: []string{"a", "b", "c"}}, "a/b/c"},
		{name.Path{Parts: []string{"a", "b", "c"}, Slash: true}, "a/b/c/"},
		{name.Path{Abs: true, Parts: []string{"a", "b", "c"}, Slash: true}, "/a/b/c/"},
		{name.Path{Parts: []string{".."}}, ".."},
		{name.Path{Parts: []string{".."}, Slash: true}, ".."},
		{name.Path{Abs: true, Parts: []string{".."}, Slash: true}, "/.."},
		{name.Path{Parts: []string{"a", ".."}, Slash: true}, "a/.."},
		{name.Path{Parts: []string{"..", "a"}, Slash: true}, "../a/"},
		{name.Path{Parts: []string{"..", ".."}, Slash: true}, "../.."},
		{name.Path{Parts: []string{"..."}, Slash: true}, ".../"},
		{name.Path{Parts: []string{"b", "a"}}, "b/a"},
		{name.Path{Parts: []string{"€", "\uFFFD"}, Slash: true}, "€/\uFFFD/"},
	} {
		if got := name.Join(c.p); got != c.want {
			t.Errorf("Join(%s): %q, want %q", shown(c.p), got, c.want)
		}
	}
}

// P3.4, R1: parts that no path has are put together as they are.
func TestJoinOddParts(t *testing.T) {
	for _, c := range []struct {
		p    name.Path
		want string
	}{
		{name.Path{Parts: []string{""}}, ""},
		{name.Path{Abs: true, Parts: []string{""}, Slash: true}, "//"},
		{name.Path{Parts: []string{"", ""}}, "/"},
		{name.Path{Parts: []string{"."}, Slash: true}, "./"},
		{name.Path{Parts: []string{"a/b", "/"}}, "a/b//"},
		{name.Path{Parts: []string{"\xff", "\x00"}, Slash: true}, "\xff/\x00/"},
		{name.Path{Parts: []string{"\xe2\x82", "\xac"}}, "\xe2\x82/\xac"},
		{name.Path{Parts: []string{name25 + name25}}, name25 + name25},
		{name.Path{Parts: slices.Repeat([]string{"ab"}, 1000)}, strings.Repeat("ab/", 1000)[:2999]},
	} {
		if got := name.Join(c.p); got != c.want {
			t.Errorf("Join(%.60s): %.40q, want %.40q", shown(c.p), got, c.want)
		}
	}
}

// P3.1, P3.2, P3.3: all short texts of what matters, held against a plain telling.
func TestAllShortTexts(t *testing.T) {
	texts(6, []string{"/", ".", "a", "\x00", "\xff", "€", "\uFFFD"}, func(s string) {
		check(t, s, plainCheck(s))
		if got, want := name.Runes(s), utf8.RuneCountInString(s); got != want {
			t.Errorf("Runes(%q): %d, want %d", s, got, want)
		}
		got, e := name.Split(s)
		if want, wantE := plainSplit(s); e != wantE || !same(got, want) {
			t.Errorf("Split(%q): %s, %v, want %s, %v", s, shown(got), e, shown(want), wantE)
		}
	})
}

// P3.1, P3.2: all texts of three bytes.
func TestAllBytes(t *testing.T) {
	for n := range 1 << 24 {
		s := string([]byte{byte(n), byte(n >> 8), byte(n >> 16)})
		if got, want := name.Check(s), plainCheck(s); got != want {
			t.Fatalf("Check(%q): %v, want %v", s, got, want)
		}
		if got, want := name.Runes(s), utf8.RuneCountInString(s); got != want {
			t.Fatalf("Runes(%q): %d, want %d", s, got, want)
		}
	}
}

// P3.5: of all short paths, and of such with long parts, and of the longest: joined and split again they tell the same, and each part is two points or a name.
func TestRound(t *testing.T) {
	round := func(path string) {
		p, e := name.Split(path)
		if e != api.OK {
			return
		}
		if q, e := name.Split(name.Join(p)); e != api.OK || !same(p, q) {
			t.Errorf("%q: %s, joined %q: %s, %v", path, shown(p), name.Join(p), shown(q), e)
		}
		for _, part := range p.Parts {
			if e := name.Check(part); part != ".." && e != api.OK {
				t.Errorf("%q: the part %q is %v", path, part, e)
			}
		}
	}
	texts(9, []string{"/", ".", "a"}, round)
	texts(6, []string{"/", ".", "..", "a", "\x00", "\xff", name24, name24[1:]}, round)
	for _, path := range []string{
		strings.Repeat("a/", 128), strings.Repeat("/a", 128), "/" + strings.Repeat("a/", 127) + ".",
		strings.Repeat("../", 85) + ".", strings.Repeat("/..", 85) + "/", strings.Repeat("/", 256),
	} {
		if len(path) != api.MaxPath {
			t.Errorf("%q has %d bytes", path, len(path))
		}
		if p, e := name.Split(path); e != api.OK {
			t.Errorf("%q: %s, %v", path, shown(p), e)
		}
		round(path)
	}
}

// R3: parts that are handed in stay, and the room behind them.
func TestJoinChangesNothing(t *testing.T) {
	room := []string{"a", "..", "b", "c"}
	for n := range 4 {
		for _, slash := range []bool{false, true} {
			name.Join(name.Path{Abs: slash, Parts: room[:n], Slash: slash})
			if want := []string{"a", "..", "b", "c"}; !slices.Equal(room, want) {
				t.Fatalf("%d parts, then %q", n, room)
			}
		}
	}
}

// R2, R3: parts that are handed out are the caller's own, and so is the room behind them.
func TestPartsAreOwn(t *testing.T) {
	p, _ := name.Split("/a/../b/")
	q, _ := name.Split("/a/../b/")
	all := p.Parts[:cap(p.Parts)]
	for i := range all {
		all[i] = "x"
	}
	if want := []string{"a", "..", "b"}; !slices.Equal(q.Parts, want) {
		t.Errorf("asked before: %q", q.Parts)
	}
	told(t, "/a/../b/", true, []string{"a", "..", "b"}, true)
}

// within is whether a text that is not empty stands in the memory of another.
func within(s, in string) bool {
	from, at := uintptr(unsafe.Pointer(unsafe.StringData(in))), uintptr(unsafe.Pointer(unsafe.StringData(s)))
	return from <= at && at < from+uintptr(len(in))
}

// R3: no text that is handed out stands in the memory of one that was handed in.
func TestTextsAreOwn(t *testing.T) {
	for _, path := range []string{"a", "abc", "/abc", "abc/", "abc/../def"} {
		p, _ := name.Split(path)
		for _, part := range p.Parts {
			if within(part, path) {
				t.Errorf("Split(%q): the part %q is a piece of it", path, part)
			}
			if joined := name.Join(name.Path{Parts: []string{part}}); within(joined, part) {
				t.Errorf("Join(%q) is the part itself", part)
			}
		}
	}
}
