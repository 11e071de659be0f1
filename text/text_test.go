package text

import (
	"bytes"
	"maps"
	"math"
	"slices"
	"strings"
	"testing"
	"unicode/utf8"
	"unsafe"

	"caisson/api"
	"caisson/codec"
)

// bad holds texts with bytes that aren't part of a well-formed sequence, and their runes.
func bad() map[string][]rune {
	const no = 0xfffd
	return map[string][]rune{
		"\xff":             {no},
		"a\xffb":           {'a', no, 'b'},
		"\x80\xbf":         {no, no},
		"\xc3":             {no},             // its end is wanting
		"\xc3a":            {no, 'a'},        // and another rune begins
		"\xe2\x82":         {no, no},         // a byte each
		"\xe2\x82\xc3\xa9": {no, no, 0xe9},   // the euro's beginning, then an e acute
		"\xc0\x80":         {no, no},         // longer than it need be
		"\xe0\x80\x80":     {no, no, no},     // longer than it need be
		"\xed\xa0\x80":     {no, no, no},     // a surrogate
		"\xf4\x90\x80\x80": {no, no, no, no}, // above U+10FFFF
		"\xf0\x9f\x98":     {no, no, no},     // its end is wanting
		"\xef\xbf":         {no, no},         // the beginning of U+FFFD
		"\ufffd\xef":       {no, no},         // U+FFFD itself, then its first byte
		"\xef\xbf\ufffd":   {no, no, no},     // and the other way
		"\U0010ffff\xfe":   {0x10ffff, no},   // the last rune of all
		"\x00\xf8\x7f":     {0, no, 0x7f},    // the edges of one byte
		"é\xe9é":           {0xe9, no, 0xe9}, // a byte of Latin-1 between
		"\xf0\x9f\x98\x80": {0x1f600},        // well-formed
		"\ufffd":           {no},             // well-formed
		"aé€\U0001f600\n":  {97, 233, 8364, 0x1f600, 10},
		"":                 {},
	}
}

// texts makes all texts of at most so many of these pieces, the empty one too.
func texts(most int, pieces ...string) []string {
	all := []string{""}
	begin := 0
	for range most {
		end := len(all)
		for _, s := range all[begin:end] {
			for _, p := range pieces {
				all = append(all, s+p)
			}
		}
		begin = end
	}
	return all
}

// widths tells how many bytes each rune has in s.
func widths(s string) []int {
	var out []int
	for len(s) > 0 {
		_, n := utf8.DecodeRuneInString(s)
		out = append(out, n)
		s = s[n:]
	}
	return out
}

func TestRunes(t *testing.T) { // P2.1
	for s, want := range bad() {
		if got := Runes(s); !slices.Equal(got, want) {
			t.Errorf("Runes(%q) = %x", s, got)
		}
		if got := Len(s); got != len(want) {
			t.Errorf("Len(%q) = %d", s, got)
		}
	}
	for _, s := range texts(4, "a", "\x80", "\xbf", "\xc3", "\xe2", "\xef", "\xf0", "\ufffd") {
		if got := Len(s); got != len(widths(s)) || len(Runes(s)) != got {
			t.Fatalf("Len(%q) = %d", s, got)
		}
	}
}

func TestOf(t *testing.T) { // P2.1
	for _, c := range []struct {
		list []rune
		want string
	}{
		{nil, ""}, {[]rune{97, -1}, "a\ufffd"}, {[]rune{0, 0x7f, 0x80}, "\x00\x7f\u0080"}, {[]rune{0xd800, 0xdfff, 'b'}, "\ufffd\ufffdb"},
		{[]rune{0x10ffff, 0x110000}, "\U0010ffff\ufffd"}, {[]rune{math.MinInt32, math.MaxInt32}, "\ufffd\ufffd"}, {[]rune{0xfffd}, "\ufffd"},
	} {
		if got := Of(c.list...); got != c.want {
			t.Errorf("Of(%x) = %q", c.list, got)
		}
	}
	for s := range bad() {
		if utf8.ValidString(s) && Of(Runes(s)...) != s {
			t.Errorf("Of the runes of %q = %q", s, Of(Runes(s)...))
		}
	}
}

func TestBad(t *testing.T) { // P2.1
	for _, c := range []struct {
		s   string
		at  int
		bad bool
	}{
		{"a\xffb", 1, true}, {"", 0, false}, {"\ufffd", 0, false}, {"\ufffd\xef\xbf", 3, true}, {"\xef\xbf", 0, true}, {"é\xe9", 2, true},
		{"abc\xed\xa0\x80", 3, true}, {"\xff\xff", 0, true}, {"ab\xf0\x9f\x98", 2, true}, {"a\ufffdb", 0, false}, {"\xef\xbf\ufffd", 0, true},
	} {
		if at, no := Bad(c.s); at != c.at || no != c.bad {
			t.Errorf("Bad(%q) = %d, %v", c.s, at, no)
		}
	}
	for _, s := range texts(4, "a", "\x80", "\xbf", "\xbd", "\xc3", "\xef", "\ufffd") {
		at, no := Bad(s)
		if no == utf8.ValidString(s) {
			t.Fatalf("Bad(%q) = %d, %v", s, at, no)
		}
		if r, n := utf8.DecodeRuneInString(s[at:]); no && (!utf8.ValidString(s[:at]) || r != 0xfffd || n != 1) || !no && at != 0 {
			t.Fatalf("Bad(%q) = %d, %v", s, at, no)
		}
	}
}

func TestClip(t *testing.T) { // P2.2
	for _, c := range []struct {
		s    string
		n    int
		want string
	}{
		{"aéb", 2, "aé"}, {"a", 5, "a"}, {"a", -1, ""}, {"\xffa", 1, "\xff"}, {"", 3, ""}, {"", -3, ""}, {"abc", 0, ""}, {"abc", 3, "abc"}, {"abc", 2, "ab"},
		{"\U0001f600\xf0\x9f", 2, "\U0001f600\xf0"}, {"ab", math.MaxInt, "ab"}, {"ab", math.MinInt, ""}, {"\ufffd\xff", 1, "\ufffd"},
	} {
		if got := Clip(c.s, c.n); got != c.want {
			t.Errorf("Clip(%q, %d) = %q", c.s, c.n, got)
		}
	}
	for s := range bad() {
		size := 0
		for n, w := range widths(s) {
			if got := Clip(s, n); got != s[:size] {
				t.Errorf("Clip(%q, %d) = %q", s, n, got)
			}
			size += w
		}
	}
}

// pairs: each capital that is folded, with what it is folded to.
func pairs() map[rune]rune {
	const capitals = "ABCDEFGHIJKLMNOPQRSTUVWXYZÀÁÂÃÄÅÆÇÈÉÊËÌÍÎÏÐÑÒÓÔÕÖØÙÚÛÜÝÞΑΒΓΔΕΖΗΘΙΚΛΜΝΞΟΠΡΣΤΥΦΧΨΩАБВГДЕЖЗИЙКЛМНОПРСТУФХЦЧШЩЪЫЬЭЮЯ"
	const small = "abcdefghijklmnopqrstuvwxyzàáâãäåæçèéêëìíîïðñòóôõöøùúûüýþαβγδεζηθικλμνξοπρστυφχψωабвгдежзийклмнопрстуфхцчшщъыьэюя"
	to := []rune(small)
	out := map[rune]rune{}
	for i, r := range []rune(capitals) {
		out[r] = to[i]
	}
	return out
}

func TestFoldEachRune(t *testing.T) { // P2.3
	to := pairs()
	if len(to) != 26+30+24+32 {
		t.Fatalf("%d capitals", len(to))
	}
	for r := rune(0); r <= utf8.MaxRune; r++ {
		want := string(r) // of a surrogate U+FFFD
		if f, ok := to[r]; ok {
			want = string(f)
		}
		if got := Fold(string(r)); got != want {
			t.Errorf("Fold(%U) = %q", r, got)
		}
	}
}

func TestFold(t *testing.T) { // P2.3
	for s, want := range map[string]string{
		"":              "",
		"Ärger":         "ärger",
		"ΑΣ×":           "ασ×",
		"\xff":          "\ufffd",
		"A\xc3Z":        "a\ufffdz",
		"A\x00B\n":      "a\x00b\n",
		"\u03a2\u03aaß": "\u03a2\u03aaß",
		"ЁЯ":            "Ёя",
		"\xed\xa0\x80":  "\ufffd\ufffd\ufffd",
	} {
		got := Fold(s)
		if got != want {
			t.Errorf("Fold(%q) = %q", s, got)
		}
		if again := Fold(got); again != got {
			t.Errorf("Fold(%q) = %q", got, again)
		}
	}
	for s := range bad() {
		if got := Fold(s); Fold(got) != got || !utf8.ValidString(got) {
			t.Errorf("Fold(%q) = %q", s, got)
		}
	}
}

func TestKeyBytes(t *testing.T) { // P2.4
	for s, want := range map[string][]byte{
		"":       {0, 1, 0, 1},
		"A":      {97, 0, 1, 65, 0, 1},
		"b\x00A": {98, 0, 255, 97, 0, 1, 98, 0, 255, 65, 0, 1},
		"\xff":   {0xef, 0xbf, 0xbd, 0, 1, 255, 0, 1},
		"Ā":      {0xc4, 0x80, 0, 1, 0xc4, 0x80, 0, 1}, // a capital that isn't folded
	} {
		if got := Key(s); !slices.Equal(got, want) {
			t.Errorf("Key(%q) = %v", s, got)
		}
	}
}

func TestKeyOrder(t *testing.T) { // P2.4
	all := texts(3, "a", "A", "b", "\x00", "\x01", "é", "É", "\xff", "\ufffd")
	for _, a := range all {
		ka, fa := Key(a), Fold(a)
		for _, b := range all {
			want := strings.Compare(fa, Fold(b))
			if want == 0 {
				want = strings.Compare(a, b)
			}
			if got := bytes.Compare(ka, Key(b)); got != want {
				t.Fatalf("Key(%q) to Key(%q): %d", a, b, got)
			}
		}
	}
}

func TestFromKey(t *testing.T) { // P2.4
	for _, s := range append(texts(3, "a", "A", "\x00", "É", "\xff", "\xc3", "\ufffd"), strings.Repeat("Straße\x00", 300)) {
		b := slices.Concat([]byte{7, 0}, Key(s), []byte{0, 1})
		if got, next, e := FromKey(b, 2); got != s || next != len(b)-2 || e != api.OK {
			t.Errorf("FromKey of Key(%q) = %q, %d, %v", s, got, next, e)
		}
	}
}

func TestFromKeyErrors(t *testing.T) { // P2.4
	lists := func(folded, plain string) []byte {
		return slices.Concat(codec.OrdText([]byte(folded)), codec.OrdText([]byte(plain)))
	}
	for _, c := range []struct {
		b  []byte
		at int
		e  api.Errno
	}{
		{nil, -1, api.ErrArg}, {nil, 1, api.ErrArg}, {Key("a"), 7, api.ErrArg}, {Key("a"), math.MinInt, api.ErrArg}, {Key("a"), math.MaxInt, api.ErrArg},
		{nil, 0, api.ErrEnd}, {Key("a"), 6, api.ErrEnd}, {Key("a")[:5], 0, api.ErrEnd}, {Key("a")[:3], 0, api.ErrEnd}, {Key("a")[:2], 0, api.ErrEnd},
		{[]byte{0, 3, 0, 1}, 0, api.ErrForm}, {[]byte{97, 0, 1, 97, 0, 3}, 0, api.ErrForm},
		{lists("A", "A"), 0, api.ErrForm}, {lists("a", "b"), 0, api.ErrForm}, {lists("", "a"), 0, api.ErrForm}, {lists("a", ""), 0, api.ErrForm},
		{lists("A", "a"), 0, api.ErrForm}, {lists("\xff", "\xff"), 0, api.ErrForm}, {lists("aa", "a"), 0, api.ErrForm},
	} {
		if s, next, e := FromKey(c.b, c.at); s != "" || next != 0 || e != c.e {
			t.Errorf("FromKey(%v, %d) = %q, %d, %v; want the error %v", c.b, c.at, s, next, e, c.e)
		}
	}
}

// matches is Like by the words of the document, rune by rune.
func matches(s, pattern []rune) bool {
	if len(pattern) == 0 {
		return len(s) == 0
	}
	if pattern[0] == '%' {
		return matches(s, pattern[1:]) || len(s) > 0 && matches(s[1:], pattern)
	}
	return len(s) > 0 && (pattern[0] == '_' || Fold(string(s[0])) == Fold(string(pattern[0]))) && matches(s[1:], pattern[1:])
}

func TestLike(t *testing.T) { // P2.5
	for _, c := range []struct {
		s, pattern string
		want       bool
	}{
		{"Straße", "s%e", true}, {"ab", "a_", true}, {"ab", "a", false}, {"", "%", true}, {"a%b", "a%b", true}, {"", "_", false}, {"", "", true},
		{"a", "", false}, {"ÄRGER", "ä%R", true}, {"é", "_", true}, {"\xff\xfe", "__", true}, {"\xff", "\ufffd", true}, {"\ufffd", "\xff", true},
		{"\xff", "\xfe", true}, {"a_b", "a_b", true}, {"axb", "a%%b", true}, {"ab", "a%%b", true}, {"ab", "%_%_%", true}, {"a", "%_%_%", false},
		{"b", "%a", false}, {"a%", "a", false}, {"[a]", "[A]", true}, {"ß", "ss", false}, {"×", "÷", false}, {"mississippi", "m%iss%pi", true},
		{"mississippi", "m%iss%ip", false}, {"abcabd", "%abd", true},
	} {
		if got := Like(c.s, c.pattern); got != c.want {
			t.Errorf("Like(%q, %q) = %v", c.s, c.pattern, got)
		}
	}
}

func TestLikeOfAnything(t *testing.T) { // P2.5
	patterns := texts(4, "a", "B", "%", "_", "é")
	for _, s := range texts(4, "A", "b", "%", "_", "É") {
		for _, p := range patterns {
			if got := Like(s, p); got != matches([]rune(s), []rune(p)) {
				t.Fatalf("Like(%q, %q) = %v", s, p, got)
			}
		}
	}
	if Like(strings.Repeat("a", 2000), strings.Repeat("a%", 500)+"b") {
		t.Errorf("Like of a long text")
	}
}

func TestWords(t *testing.T) { // P2.6
	for s, want := range map[string][]string{
		"Zum 1. Mal, Ähre":    {"zum", "1", "mal", "ähre"},
		"":                    nil,
		" .,-":                nil,
		"a":                   {"a"},
		"a-b_c":               {"a", "b", "c"},
		"A1b2":                {"a1b2"},
		"x\xffy":              {"x", "y"},
		"x\ufffdy":            {"x", "y"},
		"\xc3":                nil,
		"a×b":                 {"a×b"},
		"a\u00bfb\u00c0":      {"a", "bà"},
		"\u65e5\u672c go":     {"\u65e5\u672c", "go"},
		"a a A":               {"a", "a", "a"},
		"@AZ[`az{/09:":        {"az", "az", "09"},
		"\U0001f600\u2014ab ": {"\U0001f600\u2014ab"},
	} {
		if got := Words(s); !slices.Equal(got, want) {
			t.Errorf("Words(%q) = %q", s, got)
		}
	}
}

func TestWordsEachRune(t *testing.T) { // P2.6
	const plain = "abcdefghijklmnopqrstuvwxyzABCDEFGHIJKLMNOPQRSTUVWXYZ0123456789"
	for r := rune(0); r <= utf8.MaxRune; r++ {
		s := string(r)
		letter := strings.ContainsRune(plain, r) || r >= 0xc0 && s != "\ufffd"
		var want []string
		if letter {
			want = []string{Fold(s)}
		}
		if got := Words(s); !slices.Equal(got, want) {
			t.Errorf("Words(%U) = %q", r, got)
		}
	}
}

func TestCount(t *testing.T) { // P2.6
	for _, c := range []struct {
		list []string
		want map[string]int
	}{
		{nil, map[string]int{}}, {[]string{""}, map[string]int{}}, {[]string{"a A b", "b"}, map[string]int{"a": 2, "b": 2}},
		{[]string{"a", "b"}, map[string]int{"a": 1, "b": 1}}, {[]string{"É-é", "\xff1"}, map[string]int{"é": 2, "1": 1}},
	} {
		if got := Count(c.list...); got == nil || !maps.Equal(got, c.want) {
			t.Errorf("Count(%q) = %v", c.list, got)
		}
	}
}

// shares: does one text lie in the other one's memory?
func shares(part, whole string) bool {
	p, w := uintptr(unsafe.Pointer(unsafe.StringData(part))), uintptr(unsafe.Pointer(unsafe.StringData(whole)))
	return len(part) > 0 && p < w+uintptr(len(whole)) && w < p+uintptr(len(part))
}

func TestMemory(t *testing.T) { // rule 5
	s := strings.Clone("some words of a text")
	for _, got := range append(Words(s), Clip(s, 4), Clip(s, 100), Fold(s)) {
		if shares(got, s) {
			t.Errorf("%q lies in the argument", got)
		}
	}
	list := []rune{'a', 'b', 'c', 'd'}
	Of(list[:2]...)
	if !slices.Equal(list, []rune{'a', 'b', 'c', 'd'}) {
		t.Errorf("Of: its list is changed: %c", list)
	}
	words := []string{"B A", "a"}
	times := Count(words...)
	times["a"] = 9
	if !slices.Equal(words, []string{"B A", "a"}) || Count(words...)["a"] != 2 {
		t.Errorf("Count: the list is changed, or the answer is kept")
	}
	runes, key := Runes(s), Key(s)
	clear(runes[:cap(runes)])
	clear(key[:cap(key)])
	if !slices.Equal(Runes(s), []rune(s)) || Key(s)[0] != 's' {
		t.Errorf("an answer is kept")
	}
	b := append(Key("ab"), 1, 2, 3)
	before := slices.Clone(b)
	got, _, _ := FromKey(b[:len(b)-3], 0)
	if !slices.Equal(b, before) {
		t.Errorf("FromKey: the list is changed")
	}
	clear(b)
	if got != "ab" {
		t.Errorf("FromKey: the text lies in the list")
	}
}

// FuzzAll: every call ends without a panic, and the promises hold.
func FuzzAll(f *testing.F) { // P1
	for s := range bad() {
		f.Add(s, "%_"+s, -1)
		f.Add("A"+s, s+"a%", 1)
	}
	f.Add("", "", math.MinInt)
	f.Add("aB", string(Key("aB")), 0)
	f.Add("aB", string(Key("aB")), math.MaxInt)
	f.Fuzz(func(t *testing.T, s, p string, n int) {
		if at, no := Bad(s); no == utf8.ValidString(s) || no && !utf8.ValidString(s[:at]) {
			t.Errorf("Bad(%q) = %d, %v", s, at, no)
		}
		if got := Of(Runes(s)...); Len(got) != Len(s) || Fold(got) != Fold(s) {
			t.Errorf("Of the runes of %q = %q", s, got)
		}
		if got := Clip(s, n); !strings.HasPrefix(s, got) || Len(got) != max(0, min(n, Len(s))) {
			t.Errorf("Clip(%q, %d) = %q", s, n, got)
		}
		if got, next, e := FromKey(Key(s), 0); got != s || next != len(Key(s)) || e != api.OK {
			t.Errorf("FromKey of Key(%q) = %q, %d, %v", s, got, next, e)
		}
		if got, next, e := FromKey([]byte(p), n); e == api.OK && string(Key(got)) != p[n:next] || e != api.OK && (got != "" || next != 0) {
			t.Errorf("FromKey(%q, %d) = %q, %d, %v", p, n, got, next, e)
		}
		if !Like(s, "%") || !Like(s, strings.Repeat("_", Len(s))) || !Like(s, "%"+s) || Like(s, p) != Like(Fold(s), Fold(p)) {
			t.Errorf("Like(%q, %q)", s, p)
		}
		sum := 0
		for _, times := range Count(s, p) {
			sum += times
		}
		if sum != len(Words(s))+len(Words(p)) {
			t.Errorf("Count(%q, %q)", s, p)
		}
	})
}
