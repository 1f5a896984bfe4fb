package tests

import (
	"fmt"
	"regexp"
	"slices"
	"strings"
	"testing"
	"unsafe"

	"loop.example/g00243/impl"
)

const tokenSigns = "(){}|*+?:,;=@-/<&!"

var (
	passedOverFirst = regexp.MustCompile(`\A(?:[ \n]|#[^\n]*)+`)
	tokenForms      = []struct {
		kind int
		form *regexp.Regexp
	}{
		{impl.ToOpen, regexp.MustCompile(`\A([a-zA-Z][a-zA-Z0-9]*)\(`)},
		{impl.ToName, regexp.MustCompile(`\A([a-zA-Z][a-zA-Z0-9]*)`)},
		{impl.ToNum, regexp.MustCompile(`\A([0-9]+)`)},
		{impl.ToText, regexp.MustCompile(`\A"([^"\n]+)"`)},
		{impl.ToSet, regexp.MustCompile(`\A\[([a-z0-9-]+)\]`)},
		{impl.ToSign, regexp.MustCompile(`\A(->|[(){}|*+?:,;=@\-/<&!])`)},
	}
)

// runeEach has a rune for each byte, so that the forms count bytes.
func runeEach(s string) []rune {
	out := []rune{}
	for i := range len(s) {
		out = append(out, rune(s[i]))
	}
	return out
}

func byteEach(s string) string {
	out := []byte{}
	for _, r := range s {
		out = append(out, byte(r))
	}
	return string(out)
}

// slowToken is the first form that fits, when that is not too long; and how many bytes it takes.
func slowToken(rest string) (impl.Token, int) {
	most := map[int]int{impl.ToOpen: 6, impl.ToName: 6, impl.ToNum: 2, impl.ToText: 8, impl.ToSet: 12, impl.ToSign: 2}
	for _, f := range tokenForms {
		found := f.form.FindStringSubmatch(rest)
		if found == nil {
			continue
		}
		inner := byteEach(found[1])
		if len(inner) > most[f.kind] || f.kind == impl.ToSet && slowSetBytes(inner) == "" {
			return impl.Token{}, 0
		}
		return impl.Token{Kind: f.kind, Text: inner}, len(byteEach(found[0]))
	}
	return impl.Token{}, 0
}

func slowTokens(s string) ([]impl.Token, int) {
	if len(s) > 600 {
		return nil, 601
	}
	runes, list := runeEach(s), []impl.Token{}
	for at := 0; ; {
		at += len(byteEach(passedOverFirst.FindString(string(runes[at:]))))
		if at == len(runes) {
			return list, 0
		}
		token, took := slowToken(string(runes[at:]))
		if took == 0 || len(list) == 200 {
			return nil, at + 1
		}
		list = append(list, token)
		at += took
	}
}

func tokenPicture(list []impl.Token) string {
	kinds := []string{"no kind", "name", "num", "text", "set", "sign", "open"}
	told := []string{}
	for _, token := range list {
		kind := fmt.Sprint("kind ", token.Kind)
		if token.Kind > 0 && token.Kind < len(kinds) {
			kind = kinds[token.Kind]
		}
		told = append(told, kind+" "+token.Text)
	}
	return strings.Join(told, "\n")
}

// checkTokens holds for any text, whatever is in it.
func checkTokens(t *testing.T, s string) ([]impl.Token, int) {
	t.Helper()
	list, fault := impl.Tokens(s)
	want, place := slowTokens(s)
	if fault != place || tokenPicture(list) != tokenPicture(want) {
		t.Fatalf("Tokens(%q) = %q, %d, not %q, %d", s, tokenPicture(list), fault, tokenPicture(want), place)
	}
	return list, fault
}

// tokensAre: each is told as its kind, a blank, and its Text.
func tokensAre(t *testing.T, s string, want ...string) {
	t.Helper()
	list, fault := checkTokens(t, s)
	if got := tokenPicture(list); fault != 0 || len(list) != len(want) || got != strings.Join(want, "\n") {
		t.Fatalf("Tokens(%q) = %q, %d, not %q", s, got, fault, want)
	}
}

func noTokens(t *testing.T, s string, place int) {
	t.Helper()
	if list, fault := checkTokens(t, s); fault != place || len(list) != 0 {
		t.Fatalf("Tokens(%q) = %q, %d, not nothing, %d", s, tokenPicture(list), fault, place)
	}
}

// written is a text that tells this token.
func written(token impl.Token) string {
	switch token.Kind {
	case impl.ToText:
		return `"` + token.Text + `"`
	case impl.ToSet:
		return "[" + token.Text + "]"
	case impl.ToOpen:
		return token.Text + "("
	}
	return token.Text
}

// mayTouch tells whether two tokens stay two with nothing between them.
func mayTouch(a, b impl.Token) bool {
	long := b.Kind == impl.ToName || b.Kind == impl.ToOpen
	switch a.Kind {
	case impl.ToName:
		return !long && b.Kind != impl.ToNum && b.Text != "("
	case impl.ToNum:
		return b.Kind != impl.ToNum
	}
	return true
}

// gaps are passed over; a remark that ends with the text is none of them.
func gaps() []string {
	return []string{" ", "\n", "  ", "\n\n", " \n ", "#\n", "# a remark\n", "#\"\n", "#[\n", "##\n", "# \xff\x00\t~\n", " # é \n\n# z( \n "}
}

// someToken is right in all ways, and of any length that it may have.
func someToken(next func(n int) int) impl.Token {
	letters := smallLetters + strings.ToUpper(smallLetters)
	pick := func(pool string, most int) string {
		out := ""
		for range next(most + 1) {
			at := next(len(pool))
			out += pool[at : at+1]
		}
		return out
	}
	switch kind := 1 + next(6); kind {
	case impl.ToName, impl.ToOpen:
		first := next(len(letters))
		return impl.Token{Kind: kind, Text: letters[first:first+1] + pick(letters+"0123456789", 5)}
	case impl.ToNum:
		return impl.Token{Kind: kind, Text: fmt.Sprint(next(100))}
	case impl.ToText:
		return impl.Token{Kind: kind, Text: "t" + pick("a1 #[]()->|\x00\t\x7f\x80\xc3\xa9\xff", 7)}
	case impl.ToSet:
		return impl.Token{Kind: kind, Text: rightSets()[next(len(rightSets()))]}
	}
	sign := next(len(tokenSigns) + 1)
	if sign == len(tokenSigns) {
		return impl.Token{Kind: impl.ToSign, Text: "->"}
	}
	return impl.Token{Kind: impl.ToSign, Text: tokenSigns[sign : sign+1]}
}

func someTokens(next func(n int) int, most int) []impl.Token {
	list := []impl.Token{}
	for range next(most + 1) {
		list = append(list, someToken(next))
	}
	return list
}

// laidOut puts what between says behind each token but the last one.
func laidOut(list []impl.Token, between func(a, b impl.Token) string) string {
	out := ""
	for i, token := range list {
		out += written(token)
		if i+1 < len(list) {
			out += between(token, list[i+1])
		}
	}
	return out
}

func blankBetween(a, b impl.Token) string { return " " }

func TestTokensAlone(t *testing.T) {
	tokensAre(t, "S", "name S")
	tokensAre(t, "a", "name a")
	tokensAre(t, "z", "name z")
	tokensAre(t, "A", "name A")
	tokensAre(t, "Z", "name Z")
	tokensAre(t, "aZ09", "name aZ09")
	tokensAre(t, "x1", "name x1")
	tokensAre(t, "S(", "open S")
	tokensAre(t, "aZ09(", "open aZ09")
	tokensAre(t, "0", "num 0")
	tokensAre(t, "9", "num 9")
	tokensAre(t, "00", "num 00")
	tokensAre(t, "07", "num 07")
	tokensAre(t, "99", "num 99")
	tokensAre(t, `"x"`, "text x")
	tokensAre(t, `" "`, "text  ")
	tokensAre(t, `"a b"`, "text a b")
	tokensAre(t, `"->"`, "text ->")
	tokensAre(t, `"[a]"`, "text [a]")
	tokensAre(t, `"f(1)"`, "text f(1)")
	tokensAre(t, "[a]", "set a")
	tokensAre(t, "[a-c]", "set a-c")
	tokensAre(t, "[za-c0-9]", "set za-c0-9")
	tokensAre(t, "->", "sign ->")
	for i := range len(tokenSigns) {
		tokensAre(t, tokenSigns[i:i+1], "sign "+tokenSigns[i:i+1])
	}
}

func TestTokensInOrder(t *testing.T) {
	tokensAre(t, `S -> A( n , 12 ) "x" [a-c] | b:T { @ } ; # all of it`,
		"name S", "sign ->", "open A", "name n", "sign ,", "num 12", "sign )", "text x", "set a-c", "sign |",
		"name b", "sign :", "name T", "sign {", "sign @", "sign }", "sign ;")
	tokensAre(t, `S->A(n,12)"x"[a-c]|b:T{@};`,
		"name S", "sign ->", "open A", "name n", "sign ,", "num 12", "sign )", "text x", "set a-c", "sign |",
		"name b", "sign :", "name T", "sign {", "sign @", "sign }", "sign ;")
	tokensAre(t, `( ) { } | * + ? : , ; = @ - / < & ! ->`,
		"sign (", "sign )", "sign {", "sign }", "sign |", "sign *", "sign +", "sign ?", "sign :", "sign ,", "sign ;", "sign =",
		"sign @", "sign -", "sign /", "sign <", "sign &", "sign !", "sign ->")
	tokensAre(t, tokenSigns+"->",
		"sign (", "sign )", "sign {", "sign }", "sign |", "sign *", "sign +", "sign ?", "sign :", "sign ,", "sign ;", "sign =",
		"sign @", "sign -", "sign /", "sign <", "sign &", "sign !", "sign ->")
	tokensAre(t, "L(n) -> { 0 < n } d:[0-9] L(n - 1) | { n = 0 } ;\nS -> l:D L(l) ;",
		"open L", "name n", "sign )", "sign ->", "sign {", "num 0", "sign <", "name n", "sign }", "name d", "sign :", "set 0-9",
		"open L", "name n", "sign -", "num 1", "sign )", "sign |", "sign {", "name n", "sign =", "num 0", "sign }", "sign ;",
		"name S", "sign ->", "name l", "sign :", "name D", "open L", "name l", "sign )", "sign ;")
	tokensAre(t, "b a b", "name b", "name a", "name b")
}

func TestTokensOfNothing(t *testing.T) {
	for _, s := range []string{"", " ", "\n", "   ", "\n\n\n", " \n \n", "#", "# a remark", "#\n", "# a remark\n", "#~\x00\xff", "##", "#\n#\n#", " #a\n #b\n #c", "# \"", "# [a"} {
		tokensAre(t, s)
	}
	tokensAre(t, strings.Repeat(" ", 600))
	tokensAre(t, "#"+strings.Repeat("~", 599))
	tokensAre(t, strings.Repeat("#\n", 300))
}

func TestNamesWithAParenthesis(t *testing.T) {
	tokensAre(t, "A(", "open A")
	tokensAre(t, "A (", "name A", "sign (")
	tokensAre(t, "A\n(", "name A", "sign (")
	tokensAre(t, "A#(\n(", "name A", "sign (")
	tokensAre(t, "A #(", "name A")
	tokensAre(t, "A#(", "name A")
	tokensAre(t, "A((", "open A", "sign (")
	tokensAre(t, "A( (", "open A", "sign (")
	tokensAre(t, "A()", "open A", "sign )")
	tokensAre(t, "A)", "name A", "sign )")
	tokensAre(t, "A(B(C", "open A", "open B", "name C")
	tokensAre(t, "A B(", "name A", "open B")
	tokensAre(t, "a1(2", "open a1", "num 2")
	tokensAre(t, "(A(", "sign (", "open A")
	tokensAre(t, "(A", "sign (", "name A")
	tokensAre(t, "1(", "num 1", "sign (")
	tokensAre(t, "12(", "num 12", "sign (")
	tokensAre(t, "1a(", "num 1", "open a")
	tokensAre(t, `"a"(`, "text a", "sign (")
	tokensAre(t, `A("(")`, "open A", "text (", "sign )")
	tokensAre(t, "[a](", "set a", "sign (")
	tokensAre(t, "A([a])", "open A", "set a", "sign )")
	tokensAre(t, "->(", "sign ->", "sign (")
	noTokens(t, "A(~", 3)
	noTokens(t, "A[", 2)
}

func TestArrowsAndMinus(t *testing.T) {
	tokensAre(t, "->", "sign ->")
	tokensAre(t, "-", "sign -")
	tokensAre(t, "a -", "name a", "sign -")
	tokensAre(t, "--", "sign -", "sign -")
	tokensAre(t, "-->", "sign -", "sign ->")
	tokensAre(t, "->-", "sign ->", "sign -")
	tokensAre(t, "->->", "sign ->", "sign ->")
	tokensAre(t, "->-->-", "sign ->", "sign -", "sign ->", "sign -")
	tokensAre(t, "a->b", "name a", "sign ->", "name b")
	tokensAre(t, "a-b", "name a", "sign -", "name b")
	tokensAre(t, "1-1", "num 1", "sign -", "num 1")
	tokensAre(t, "- -> -", "sign -", "sign ->", "sign -")
	noTokens(t, ">", 1)
	noTokens(t, "- >", 3)
	noTokens(t, "-\n>", 3)
	noTokens(t, "-#\n>", 4)
	noTokens(t, "->>", 3)
	noTokens(t, ">-", 1)
	noTokens(t, "a>b", 2)
	noTokens(t, "->-> >", 6)
}

func TestFiguresAndLetters(t *testing.T) {
	tokensAre(t, "a1", "name a1")
	tokensAre(t, "a12", "name a12")
	tokensAre(t, "a123", "name a123")
	tokensAre(t, "a12345", "name a12345")
	tokensAre(t, "1a", "num 1", "name a")
	tokensAre(t, "12a", "num 12", "name a")
	tokensAre(t, "1a2", "num 1", "name a2")
	tokensAre(t, "12a345", "num 12", "name a345")
	tokensAre(t, "12Z(", "num 12", "open Z")
	tokensAre(t, "12abcdef", "num 12", "name abcdef")
	tokensAre(t, "1 2", "num 1", "num 2")
	tokensAre(t, "12 34", "num 12", "num 34")
	tokensAre(t, "a 1", "name a", "num 1")
	noTokens(t, "123a", 1)
	noTokens(t, "12abcdefg", 3)
}

func TestTokensWithNothingBetween(t *testing.T) {
	tokensAre(t, `"a""b"`, "text a", "text b")
	tokensAre(t, `[a][b]`, "set a", "set b")
	tokensAre(t, `"a"[b]`, "text a", "set b")
	tokensAre(t, `[b]"a"`, "set b", "text a")
	tokensAre(t, `a"b"c`, "name a", "text b", "name c")
	tokensAre(t, `1"2"3`, "num 1", "text 2", "num 3")
	tokensAre(t, `a[b]c`, "name a", "set b", "name c")
	tokensAre(t, "a|b", "name a", "sign |", "name b")
	tokensAre(t, "))", "sign )", "sign )")
	tokensAre(t, ")a(", "sign )", "open a")
	tokensAre(t, "a(b", "open a", "name b")
	tokensAre(t, "a(1", "open a", "num 1")
}

// Each byte there is, alone, and behind or ahead of a token.
func TestEachByteAlone(t *testing.T) {
	for b := range 256 {
		one := string([]byte{byte(b)})
		switch {
		case strings.Contains(" \n#", one):
			tokensAre(t, one)
			tokensAre(t, "a "+one, "name a")
		case strings.Contains(smallLetters+strings.ToUpper(smallLetters), one):
			tokensAre(t, one, "name "+one)
			tokensAre(t, one+" a", "name "+one, "name a")
		case strings.Contains("0123456789", one):
			tokensAre(t, one, "num "+one)
			tokensAre(t, "a"+one, "name a"+one)
		case strings.Contains(tokenSigns, one):
			tokensAre(t, one, "sign "+one)
			tokensAre(t, "a "+one+" a", "name a", "sign "+one, "name a")
		default:
			noTokens(t, one, 1)
			noTokens(t, one+" a", 1)
			noTokens(t, "a"+one+"b", 2)
			noTokens(t, "a "+one, 3)
			noTokens(t, " \n"+one+" ", 3)
			noTokens(t, "# r\n"+one+"# r", 5)
			noTokens(t, one+one, 1)
			tokensAre(t, "#"+one+"\na", "name a")
		}
	}
}

func TestBytesThatBeginNoToken(t *testing.T) {
	for _, one := range []string{"~", "^", "$", "%", "'", ".", ">", "\\", "_", "`", "]", "\x00", "\t", "\r", "\x0b", "\x0c", "\x1f", "\x7f", "\x80", "\xa0", "\xff"} {
		noTokens(t, one, 1)
		noTokens(t, "S -> "+one+" ;", 6)
		noTokens(t, "S -> a ;"+one, 9)
		noTokens(t, "S -> a ;\n"+one, 10)
		noTokens(t, "S -> # r\n"+one+" ;", 10)
		noTokens(t, "abc"+one+"def", 4)
		noTokens(t, "12"+one, 3)
		noTokens(t, `"a"`+one, 4)
		noTokens(t, "[a]"+one, 4)
		noTokens(t, "a("+one, 3)
	}
	// The first one is told, whatever else follows.
	noTokens(t, "~ ^", 1)
	noTokens(t, "a ^ ~ \"", 3)
	noTokens(t, "a \"\" ~", 3)
	noTokens(t, "a [] 123 ~", 3)
	noTokens(t, "a 123 [] ~", 3)
}

func TestNamesOf6And7(t *testing.T) {
	for _, name := range []string{"abcdef", "ABCDEF", "a12345", "aZ0zA9", "x99999"} {
		tokensAre(t, name, "name "+name)
		tokensAre(t, name+"(", "open "+name)
		tokensAre(t, name+" (", "name "+name, "sign (")
		tokensAre(t, " "+name+"\n"+name, "name "+name, "name "+name)
		for _, more := range []string{"g", "G", "7"} {
			noTokens(t, name+more, 1)
			noTokens(t, name+more+"(", 1)
			noTokens(t, name+more+" (", 1)
			noTokens(t, name+more+more+more, 1)
			noTokens(t, "a "+name+more, 3)
			noTokens(t, "a\n"+name+more+"( b", 3)
			noTokens(t, "1"+name+more, 2)
			noTokens(t, "b("+name+more+"(", 3)
			noTokens(t, name+" "+name+more, len(name)+2)
		}
	}
	for n := 1; n <= 30; n++ {
		name := strings.Repeat("n", n)
		if n <= 6 {
			tokensAre(t, name, "name "+name)
			tokensAre(t, name+"(", "open "+name)
		} else {
			noTokens(t, name, 1)
			noTokens(t, name+"(", 1)
		}
	}
}

func TestNumbersOf2And3(t *testing.T) {
	for n := range 1000 {
		figures := fmt.Sprint(n)
		if n < 100 {
			tokensAre(t, figures, "num "+figures)
			tokensAre(t, "0"+figures[len(figures)-1:], "num 0"+figures[len(figures)-1:])
		} else {
			noTokens(t, figures, 1)
		}
	}
	tokensAre(t, "10 99", "num 10", "num 99")
	noTokens(t, "000", 1)
	noTokens(t, "001", 1)
	noTokens(t, "1 234", 3)
	noTokens(t, "a( 234 )", 4)
	noTokens(t, "1234567", 1)
	noTokens(t, "100(", 1)
	noTokens(t, "-100", 2)
}

func TestTextsOf8And9(t *testing.T) {
	for _, inner := range []string{"x", "ab", "12345678", "a b c d ", "#------#", "[a-c](){", "\x00\x01\x02\x03\x04\x05\x06\x07", "\xf0\xf1\xf2\xf3\xfc\xfd\xfe\xff", "éééé"} {
		tokensAre(t, `"`+inner+`"`, "text "+inner)
		tokensAre(t, `a"`+inner+`"b`, "name a", "text "+inner, "name b")
		noTokens(t, `"`+inner, 1)
		noTokens(t, `a "`+inner, 3)
		checkTokens(t, inner+`"`)
	}
	for n := range 40 {
		inner := strings.Repeat("t", n)
		if n >= 1 && n <= 8 {
			tokensAre(t, `"`+inner+`"`, "text "+inner)
		} else {
			noTokens(t, `"`+inner+`"`, 1)
			noTokens(t, `"a" "`+inner+`" b`, 5)
		}
	}
	for _, wrong := range []string{`"`, `""`, `"a`, `"abcdefgh`, `"abcdefghi"`, `"abcdefghi`, `"""`, `"" "a"`, "\"\n\"", "\"a\n\"", "\"\na\"", "\"a\nb\"", "\"abc\ndefg\"", "\"\n", "\"a#\n\"", `"éééé."`, `"ééééé"`} {
		noTokens(t, wrong, 1)
		noTokens(t, "S -> "+wrong, 6)
	}
	noTokens(t, `"a#"b"`, 6)
	noTokens(t, `"a" ""`, 5)
	noTokens(t, `"a" "`, 5)
	noTokens(t, `"a""`, 4)
}

// Each byte there is, at each place of a text between its marks.
func TestBytesInTexts(t *testing.T) {
	for _, plain := range []string{"x", "xyz", "12345678"} {
		for at := range len(plain) {
			for b := range 256 {
				inner := withByte(plain, at, byte(b))
				s := `a "` + inner + `" b`
				switch byte(b) {
				case '\n':
					noTokens(t, s, 3)
				case '"':
					if _, fault := checkTokens(t, s); fault == 0 {
						t.Fatalf("Tokens(%q) takes it", s)
					}
				default:
					tokensAre(t, s, "name a", "text "+inner, "name b")
				}
			}
		}
	}
}

func TestSetTokens(t *testing.T) {
	for _, set := range rightSets() {
		tokensAre(t, "["+set+"]", "set "+set)
		tokensAre(t, "a["+set+"]*", "name a", "set "+set, "sign *")
		noTokens(t, "["+set, 1)
		noTokens(t, "a ["+set+" ", 3)
		noTokens(t, "["+set+"\n]", 1)
		noTokens(t, "[ "+set+"]", 1)
		noTokens(t, "["+set+"#]", 1)
		noTokens(t, "[["+set+"]", 1)
		noTokens(t, "["+set+"]]", len(set)+3)
	}
	for _, wrong := range wrongSets() {
		if len(wrong) < 500 {
			noTokens(t, "["+wrong+"]", 1)
			noTokens(t, "a [b] ["+wrong+"] c", 7)
		}
	}
	tokensAre(t, "[acegikmoqsuw]", "set acegikmoqsuw")
	tokensAre(t, "[a-ce-gi-km-o]", "set a-ce-gi-km-o")
	noTokens(t, "[acegikmoqsuwy]", 1)
	noTokens(t, "[a-ce-gi-km-oq]", 1)
	noTokens(t, "[", 1)
	noTokens(t, "[]", 1)
	noTokens(t, "]", 1)
	noTokens(t, "a]", 2)
	noTokens(t, "[a", 1)
	noTokens(t, "[a [b]", 1)
	noTokens(t, "[c-a]", 1)
	noTokens(t, "[A]", 1)
	noTokens(t, "[a\"]\"", 1)
}

func TestRemarks(t *testing.T) {
	tokensAre(t, "a # b", "name a")
	tokensAre(t, "a # b\nc", "name a", "name c")
	tokensAre(t, "a#b\nc", "name a", "name c")
	tokensAre(t, "a#\nc", "name a", "name c")
	tokensAre(t, "a#", "name a")
	tokensAre(t, "# a\nb", "name b")
	tokensAre(t, "# a # b\nc", "name c")
	tokensAre(t, "# a\n# b\nc # d\n", "name c")
	tokensAre(t, "1#\n2", "num 1", "num 2")
	tokensAre(t, "-#\n-", "sign -", "sign -")
	tokensAre(t, "a # \"\nb \"c\"", "name a", "name b", "text c")
	tokensAre(t, "a # [\nb [c]", "name a", "name b", "set c")
	tokensAre(t, "a # a name that is much too long, 12345, ~\nb", "name a", "name b")
	tokensAre(t, "a #\rb\nc", "name a", "name c")
	tokensAre(t, "a #\x00\x0b\x0c\x7f\x85\u0085\u2028b\nc", "name a", "name c")
	tokensAre(t, "a # é\xff\xc3\nc", "name a", "name c")
	tokensAre(t, `"#"`, "text #")
	tokensAre(t, `"#" a`, "text #", "name a")
	tokensAre(t, `"a#b"#"c"`, "text a#b")
	tokensAre(t, "\"a#b\" # c\n\"##\"", "text a#b", "text ##")
	noTokens(t, "[a#b]", 1)
	noTokens(t, "# r\n~", 5)
	noTokens(t, "a # r\n# s\n ~", 12)
	for b := range 256 {
		remark := "#" + string([]byte{byte(b)}) + "#"
		tokensAre(t, "a "+remark, "name a")
		tokensAre(t, "a "+remark+"\nb", "name a", "name b")
		tokensAre(t, remark)
	}
}

// What is a rune of several bytes is as many bytes, and none of them is what its last eight bits would be.
func TestRunesOfSeveralBytes(t *testing.T) {
	runes := "éßčžĠĊĢģĨĩİĹŁšźśŝŻŻĭľĪīĬĽŀƀǿ\u0100\u0120\u0123\u0130\u0141\u0161\u2028\u2020\u2061\u4e61\ufeff\ufffd\U0001f600\U00010061\U0010ffff"
	for _, r := range runes {
		one := string(r)
		noTokens(t, one, 1)
		noTokens(t, "a "+one, 3)
		noTokens(t, "a"+one+"b", 2)
		noTokens(t, "1"+one, 2)
		noTokens(t, "-"+one, 2)
		noTokens(t, "A "+one+"(", 3)
		noTokens(t, "["+one+"]", 1)
		noTokens(t, "[a"+one, 1)
		noTokens(t, `"a`+one, 1)
		tokensAre(t, "# "+one)
		tokensAre(t, "# "+one+" b\na", "name a")
		tokensAre(t, `"`+one+`"`, "text "+one)
		tokensAre(t, `a"`+one+`"b`, "name a", "text "+one, "name b")
		fill := strings.Repeat("x", 8-len(one))
		tokensAre(t, `"`+one+fill+`"`, "text "+one+fill)
		tokensAre(t, `"`+fill+one+`" c`, "text "+fill+one, "name c")
		noTokens(t, `"`+one+fill+`y"`, 1)
		noTokens(t, `"y`+fill+one+`"`, 1)
		noTokens(t, "# "+one+"\n~", 4+len(one))
		noTokens(t, `"`+one+`"~`, 3+len(one))
	}
	tokensAre(t, `"éééé"`, "text éééé")
	noTokens(t, `"éééééé"`, 1)
	tokensAre(t, "\"\U0001f600\U0001f600\"", "text \U0001f600\U0001f600")
	noTokens(t, "\"\U0001f600\U0001f600.\"", 1)
	// Pieces of runes, and what only looks like the beginning of one.
	for _, piece := range []string{"\x80", "\xbf", "\xc3", "\xe2\x80", "\xf0\x9f\x98", "\xc0\xa2", "\xc0\x8a", "\xe0\x80\xa3", "\xed\xa0\x80", "\xf4\x90\x80\x80", "\xff\xfe"} {
		noTokens(t, piece, 1)
		noTokens(t, "ab "+piece, 4)
		noTokens(t, "ab"+piece+" c", 3)
		tokensAre(t, `"`+piece+`"`, "text "+piece)
		tokensAre(t, `"a`+piece+`" b`, "text a"+piece, "name b")
		tokensAre(t, "#"+piece+"\nb", "name b")
		tokensAre(t, `"`+piece+strings.Repeat("x", 8-len(piece))+`"`, "text "+piece+strings.Repeat("x", 8-len(piece)))
		noTokens(t, `"`+piece+strings.Repeat("x", 9-len(piece))+`"`, 1)
	}
}

func TestTokens200And201(t *testing.T) {
	for _, one := range []struct{ text, told string }{{"a ", "name a"}, {";", "sign ;"}, {"a(", "open a"}, {"1 ", "num 1"}, {"->", "sign ->"}, {"- ", "sign -"}} {
		all := slices.Repeat([]string{one.told}, 200)
		s := strings.Repeat(one.text, 200)
		tokensAre(t, s, all...)
		tokensAre(t, strings.Repeat(one.text, 199), all[1:]...)
		for _, behind := range []string{"", " ", "\n", "  \n ", "# r\n", " # r\n\n ", "# r ( \"\n# s\n"} {
			tokensAre(t, s+behind, all...)
			for _, next := range []string{"b", "b(", "7", ";", "->", "-", `"x"`, "[a]", "abcdef", "; ;", ";;", "; ~"} {
				noTokens(t, s+behind+next, len(s)+len(behind)+1)
			}
			// What is no token begins at the same place.
			for _, next := range []string{"~", "\xff", `""`, "[", "abcdefg", "123"} {
				noTokens(t, s+behind+next, len(s)+len(behind)+1)
			}
		}
		tokensAre(t, s+" # the end", all...)
		noTokens(t, "~"+s+" b", 1)
	}
	tokensAre(t, `a"b"`+strings.Repeat(";", 198), append([]string{"name a", "text b"}, slices.Repeat([]string{"sign ;"}, 198)...)...)
	noTokens(t, `a"b"`+strings.Repeat(";", 199), 203)
	noTokens(t, strings.Repeat(";", 600), 201)
	noTokens(t, strings.Repeat(";", 199)+"~;;", 200)
	noTokens(t, strings.Repeat(";", 300)+"~", 201)
}

func TestTextsOf600And601(t *testing.T) {
	// Just 600 bytes: 150 names of two letters, each with two bytes behind it.
	full := strings.Repeat("ab \n", 150)
	names := slices.Repeat([]string{"name ab"}, 150)
	tokensAre(t, full, names...)
	noTokens(t, full+" ", 601)
	noTokens(t, full+"\n", 601)
	noTokens(t, full+"#", 601)
	noTokens(t, full+"a", 601)
	noTokens(t, full+"~", 601)
	noTokens(t, " "+full, 601)
	noTokens(t, full+full, 601)
	tokensAre(t, full[:599], names...)
	tokensAre(t, full[:599]+"#", names...)
	noTokens(t, full[:599]+"~", 600)
	noTokens(t, full[:596]+"1234", 597)
	noTokens(t, full[:596]+"12345", 601)
	tokensAre(t, strings.Repeat(" ", 600))
	noTokens(t, strings.Repeat(" ", 601), 601)
	noTokens(t, "#"+strings.Repeat("r", 600), 601)
	tokensAre(t, strings.Repeat(" ", 599)+"a", "name a")
	noTokens(t, strings.Repeat(" ", 600)+"a", 601)
	noTokens(t, strings.Repeat(" ", 599)+"~", 600)
	// 600 bytes in fewer runes, and as many runes in more bytes.
	tokensAre(t, "#"+strings.Repeat("é", 299)+" ")
	noTokens(t, "#"+strings.Repeat("é", 300), 601)
	noTokens(t, "#"+strings.Repeat("é", 599), 601)
	// The length is looked at ahead of all else.
	noTokens(t, "~"+strings.Repeat(" ", 600), 601)
	noTokens(t, strings.Repeat(";", 601), 601)
	noTokens(t, strings.Repeat("a ", 301), 601)
	noTokens(t, strings.Repeat("a", 601), 601)
	noTokens(t, strings.Repeat("\xff", 100000), 601)
	for n := 590; n < 620; n++ {
		checkTokens(t, strings.Repeat(" ", n-1)+";")
		checkTokens(t, strings.Repeat(" ", n-1)+"~")
		checkTokens(t, strings.Repeat("a", n))
	}
}

// Every text of some bytes that are near to all that the chapter names.
func TestTokensOfManyShortTexts(t *testing.T) {
	textsOf("aZ1\"[]->( #\n~", 4, func(s string) { checkTokens(t, s) })
	textsOf("a1\"-] \n#", 5, func(s string) { checkTokens(t, s) })
	textsOf("a1(", 8, func(s string) { checkTokens(t, s) })
	textsOf("\"a\xc3\xa9\n", 6, func(s string) { checkTokens(t, s) })
}

func TestTokensOfManyLongTexts(t *testing.T) {
	pieces := []string{"S", "abc", "x1(", "(", ")", "->", "-", ">", "12", "7", "\"", "\"x\"", "\"\"", "[a-c]", "[", "]", " ", " ", "\n", "# r\n", "#", "|", ";", ":", "é", "\xff", "~", "abcdef", "{", "}"}
	right := 0
	for seed := range 20000 {
		next := seeded(seed)
		s := ""
		for range next(24) {
			piece := pieces[next(len(pieces)-next(9))]
			s += piece
			if next(3) == 0 {
				s += " "
			}
		}
		if _, fault := checkTokens(t, s); fault == 0 {
			right++
		}
	}
	if right < 1000 {
		t.Errorf("only %d texts were all tokens", right)
	}
}

func TestTokensComeBackFromWhatIsWritten(t *testing.T) {
	for seed := range 4000 {
		list := someTokens(seeded(seed), 20)
		want := tokenPicture(list)
		s := laidOut(list, blankBetween)
		if len(s) > 600 {
			continue
		}
		if got, fault := checkTokens(t, s); fault != 0 || len(got) != len(list) || tokenPicture(got) != want {
			t.Fatalf("Tokens(%q) = %q, %d, not %q", s, tokenPicture(got), fault, want)
		}
		backwards := slices.Clone(list)
		slices.Reverse(backwards)
		s = laidOut(backwards, blankBetween)
		if got, fault := checkTokens(t, s); fault != 0 || tokenPicture(got) != tokenPicture(backwards) {
			t.Fatalf("Tokens(%q) = %q, %d, not %q", s, tokenPicture(got), fault, tokenPicture(backwards))
		}
	}
}

func TestWhatIsPassedOverChangesNothing(t *testing.T) {
	all, tried := gaps(), 0
	for seed := range 4000 {
		next := seeded(seed)
		list := someTokens(next, 12)
		want := tokenPicture(list)
		some := func() string {
			out := all[next(len(all))]
			for next(3) == 0 {
				out += all[next(len(all))]
			}
			return out
		}
		tight := laidOut(list, func(a, b impl.Token) string {
			if mayTouch(a, b) {
				return ""
			}
			return all[next(len(all))]
		})
		wide := some() + laidOut(list, func(a, b impl.Token) string { return some() }) + some()
		for _, s := range []string{tight, wide, wide + "#", wide + "# the end"} {
			if len(s) > 600 {
				continue
			}
			tried++
			if got, fault := checkTokens(t, s); fault != 0 || len(got) != len(list) || tokenPicture(got) != want {
				t.Fatalf("Tokens(%q) = %q, %d, not %q", s, tokenPicture(got), fault, want)
			}
		}
	}
	if tried < 8000 {
		t.Errorf("only %d texts were short enough", tried)
	}
}

// Each gap, between, ahead of and behind each two tokens of any kinds.
func TestEachGapBetweenTwoTokens(t *testing.T) {
	tokens := []impl.Token{}
	for _, s := range []string{"a", "Z9", "abcdef", "a(", "abcdef(", "0", "99", `"x"`, `"12345678"`, `"#"`, "[a]", "[a-ce-gi-km-o]", "->", "-", "(", ")", "|", "!"} {
		list, fault := checkTokens(t, s)
		if fault != 0 || len(list) != 1 {
			t.Fatalf("Tokens(%q) = %q, %d", s, tokenPicture(list), fault)
		}
		tokens = append(tokens, list[0])
	}
	for _, a := range tokens {
		for _, b := range tokens {
			two := tokenPicture([]impl.Token{a, b})
			for _, gap := range gaps() {
				for _, s := range []string{written(a) + gap + written(b), gap + written(a) + gap + written(b), written(a) + gap + written(b) + gap} {
					tokensAre(t, s, strings.Split(two, "\n")...)
				}
			}
			if list, _ := checkTokens(t, written(a)+written(b)); (tokenPicture(list) == two) != mayTouch(a, b) {
				t.Fatalf("Tokens(%q) = %q", written(a)+written(b), tokenPicture(list))
			}
		}
	}
}

// Of two texts with a line's end between, the tokens are those of the first and then those of the second; a fault of the second stands as much further on.
func TestTokensOfTwoTexts(t *testing.T) {
	texts := []string{"", " ", "# r", "a", "A(", "S -> a ;", "12 34", `"x" [a-c]`, "~", "a ~", "a \"", "[c-a]", "abcdefg", "1 234", "b # ~", "é", strings.Repeat("; ", 150)}
	for seed := range 60 {
		texts = append(texts, laidOut(someTokens(seeded(seed), 5), blankBetween))
	}
	for _, a := range texts {
		first, fault := checkTokens(t, a)
		for _, b := range texts {
			s := a + "\n" + b
			if len(s) > 600 {
				continue
			}
			second, other := checkTokens(t, b)
			got, place := checkTokens(t, s)
			all := append(slices.Clone(first), second...)
			switch {
			case fault != 0:
				if place != fault {
					t.Fatalf("Tokens(%q): the place %d, not %d", s, place, fault)
				}
			case other != 0:
				if place != len(a)+1+other {
					t.Fatalf("Tokens(%q): the place %d, not %d", s, place, len(a)+1+other)
				}
			case place != 0 || tokenPicture(got) != tokenPicture(all):
				t.Fatalf("Tokens(%q) = %q, %d, not %q", s, tokenPicture(got), place, tokenPicture(all))
			}
		}
	}
}

// A right text with one byte turned, or without one, is told as the slow reading tells it.
func TestTokensWithAByteTurned(t *testing.T) {
	plain := "S(n) -> \"a#b\" [a-c0]# r~\n| x:Ab12( n-1 , 20 ) {!@<9&1};"
	if _, fault := checkTokens(t, plain); fault != 0 {
		t.Fatalf("Tokens(%q): a fault at %d", plain, fault)
	}
	for at := range len(plain) {
		checkTokens(t, plain[:at])
		checkTokens(t, plain[at:])
		checkTokens(t, plain[:at]+plain[at+1:])
		for b := range 256 {
			checkTokens(t, withByte(plain, at, byte(b)))
			checkTokens(t, plain[:at]+string([]byte{byte(b)})+plain[at:])
		}
	}
}

func sharesTokens(a, b []impl.Token) bool {
	if cap(a) == 0 || cap(b) == 0 {
		return false
	}
	size := unsafe.Sizeof(impl.Token{})
	x, y := uintptr(unsafe.Pointer(unsafe.SliceData(a))), uintptr(unsafe.Pointer(unsafe.SliceData(b)))
	return x < y+uintptr(cap(b))*size && y < x+uintptr(cap(a))*size
}

func TestTokensAnswerNewMemory(t *testing.T) {
	texts := []string{"", "a", "a(", "12", `"x"`, `"12345678"`, "[a-c]", "->", "-", tokenSigns, "S -> A( [a-c] \"x\" ) 12 # r\n;", "a ~", strings.Repeat("ab ", 200)}
	for seed := range 200 {
		texts = append(texts, laidOut(someTokens(seeded(seed), 8), blankBetween))
	}
	for _, plain := range texts {
		bytes := []byte(plain)
		// A text over bytes that can be looked at, and turned, afterwards.
		s := unsafe.String(unsafe.SliceData(bytes), len(bytes))
		list, fault := impl.Tokens(s)
		again, _ := impl.Tokens(s)
		if string(bytes) != plain {
			t.Fatalf("Tokens(%q): the argument is now %q", plain, bytes)
		}
		if sharesTokens(list, again) {
			t.Fatalf("Tokens(%q): two answers share memory", plain)
		}
		for _, token := range list {
			if shares(token.Text, s) {
				t.Fatalf("Tokens(%q): %q shares memory with the argument", plain, token.Text)
			}
		}
		for i := range bytes {
			bytes[i] = '~'
		}
		want, place := slowTokens(plain)
		if fault != place || tokenPicture(list) != tokenPicture(want) {
			t.Fatalf("Tokens(%q) = %q once the argument is turned", plain, tokenPicture(list))
		}
	}
}

func TestTokensAnswerTheSameAgain(t *testing.T) {
	for range 50 {
		tokensAre(t, "S -> A( 12 ;", "name S", "sign ->", "open A", "num 12", "sign ;")
		noTokens(t, "a ~", 3)
		tokensAre(t, "a", "name a")
		noTokens(t, strings.Repeat(";", 201), 201)
		noTokens(t, strings.Repeat(" ", 601), 601)
		tokensAre(t, "")
		list, _ := impl.Tokens("a b")
		for i := range list[:cap(list)] {
			list[:cap(list)][i] = impl.Token{Kind: 77, Text: "over"}
		}
		tokensAre(t, "a b", "name a", "name b")
	}
}
