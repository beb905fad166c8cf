package lexer_test

import (
	"math"
	"regexp"
	"slices"
	"strconv"
	"strings"
	"testing"
	"unsafe"

	"worldmint/api"
	"worldmint/hash"
	"worldmint/lexer"
)

// sample returns a number below n that is the same in each run.
func sample(n int, labels ...int) int { return int(hash.Sum("sample", labels...) % uint64(n)) }

// symbols returns all symbols.
func symbols() []string { return strings.Fields("-> : ; , ( ) { } = < > + .") }

func word(text string, at int) lexer.Token {
	return lexer.Token{Kind: lexer.Word, Text: text, At: at}
}

func number(text string, n, at int) lexer.Token {
	return lexer.Token{Kind: lexer.Number, Text: text, N: n, At: at}
}

func symbol(text string, at int) lexer.Token {
	return lexer.Token{Kind: lexer.Symbol, Text: text, At: at}
}

// read fails the test unless Tokens returns exactly these tokens.
func read(t *testing.T, s string, want ...lexer.Token) {
	t.Helper()
	if got, at, e := lexer.Tokens(s); e != api.OK || at != 0 || !slices.Equal(got, want) {
		t.Errorf("Tokens(%q) = %v, %d, %d, want %v", s, got, at, e, want)
	}
}

// refuse fails the test unless Tokens returns no tokens, and this offset and error.
func refuse(t *testing.T, s string, at int, e api.Errno) {
	t.Helper()
	if got, gotAt, gotE := lexer.Tokens(s); gotE != e || gotAt != at || len(got) > 0 {
		t.Errorf("Tokens(%q) = %v, %d, %d, want %d, %d", s, got, gotAt, gotE, at, e)
	}
}

// P7.1: kinds, texts, numbers and offsets.
func TestTokens(t *testing.T) {
	read(t, "")
	read(t, "a", word("a", 0))
	read(t, "0", number("0", 0, 0))
	read(t, "->", symbol("->", 0))
	read(t, "a1 12,b->#c", word("a1", 0), number("12", 12, 3), symbol(",", 5), word("b", 6), symbol("->", 7))
	read(t, "rule smelt\n\ttake 2 ore;", word("rule", 0), word("smelt", 5), word("take", 12), number("2", 2, 17), word("ore", 19), symbol(";", 22))
	read(t, "a_b__ z9_0 x", word("a_b__", 0), word("z9_0", 6), word("x", 11))
}

// P7.1: tokens that follow each other without a blank; each of them is as long as it can be.
func TestAdjacent(t *testing.T) {
	read(t, "12ab34", number("12", 12, 0), word("ab34", 2))
	read(t, "a=1;", word("a", 0), symbol("=", 1), number("1", 1, 2), symbol(";", 3))
	read(t, "<=>", symbol("<", 0), symbol("=", 1), symbol(">", 2))
	read(t, "->>", symbol("->", 0), symbol(">", 2))
	read(t, ">->", symbol(">", 0), symbol("->", 1))
	read(t, "->->", symbol("->", 0), symbol("->", 2))
	read(t, "1.5", number("1", 1, 0), symbol(".", 1), number("5", 5, 2))
	read(t, "+7", symbol("+", 0), number("7", 7, 1))
	read(t, "a->b", word("a", 0), symbol("->", 1), word("b", 3))
	read(t, "1->2", number("1", 1, 0), symbol("->", 1), number("2", 2, 3))
}

// P7.1: blanks and comments are skipped, also at both ends; a comment may contain any bytes, and ends in front of a line feed.
func TestGaps(t *testing.T) {
	read(t, " \t\n\n")
	read(t, "#")
	read(t, "##\n#\n")
	read(t, "# a 1 ; - A \x00\r\xff é #")
	read(t, "\n a\t", word("a", 2))
	read(t, "a#b\nc", word("a", 0), word("c", 4))
	read(t, "#\na", word("a", 2))
	read(t, "a #\n # b\n\n\tc#", word("a", 0), word("c", 11))
	read(t, "-> # ->\n>", symbol("->", 0), symbol(">", 8))
	read(t, "1#2\n3", number("1", 1, 0), number("3", 3, 4))
	read(t, "#a\rb\nc", word("c", 5))
}

// P7.1 and P7.2: every byte on its own, behind a word, a number and a minus sign, and at the begin of a comment.
func TestBytes(t *testing.T) {
	for b := range 256 {
		s := string([]byte{byte(b)})
		letter, digit := b >= 'a' && b <= 'z', b >= '0' && b <= '9'
		switch {
		case strings.Contains(" \t\n#", s):
			read(t, s)
			read(t, "a"+s, word("a", 0))
			read(t, "1"+s, number("1", 1, 0))
		case letter:
			read(t, s, word(s, 0))
			read(t, "a"+s, word("a"+s, 0))
			read(t, "1"+s, number("1", 1, 0), word(s, 1))
		case digit:
			read(t, s, number(s, b-'0', 0))
			read(t, "a"+s, word("a"+s, 0))
			read(t, "1"+s, number("1"+s, 10+b-'0', 0))
		case slices.Contains(symbols(), s):
			read(t, s, symbol(s, 0))
			read(t, "a"+s, word("a", 0), symbol(s, 1))
			read(t, "1"+s, number("1", 1, 0), symbol(s, 1))
		default:
			refuse(t, s, 0, api.ErrForm)
			refuse(t, "1"+s, 1, api.ErrForm)
			if s == "_" {
				read(t, "a_", word("a_", 0))
			} else {
				refuse(t, "a"+s, 1, api.ErrForm)
			}
		}
		if s == ">" {
			read(t, "->", symbol("->", 0))
		} else {
			refuse(t, "-"+s, 0, api.ErrForm)
		}
		if s == "\n" {
			read(t, "#\na", word("a", 2))
		} else {
			read(t, "#"+s+"a")
		}
	}
}

// P7.1 and P7.2: words of up to MaxWord bytes fit.
func TestLongWords(t *testing.T) {
	for n := 1; n <= api.MaxWord; n++ {
		s := strings.Repeat("w", n)
		read(t, s, word(s, 0))
		read(t, ";"+s+";", symbol(";", 0), word(s, 1), symbol(";", n+1))
	}
	read(t, "a_______________", word("a_______________", 0))
	read(t, "a234567890123456", word("a234567890123456", 0))
	refuse(t, "a________________", 0, api.ErrLimit)
	refuse(t, "a2345678901234567", 0, api.ErrLimit)
	refuse(t, "b; a2345678901234567 c", 3, api.ErrLimit)
	refuse(t, strings.Repeat("a", api.MaxText), 0, api.ErrLimit)
	read(t, "# a2345678901234567")
}

// P7.1 and P7.2: numbers up to MaxUnits fit, with any number of zeros in front of them.
func TestGreatNumbers(t *testing.T) {
	for _, n := range []int{0, 1, 9, 10, 255, 1<<31 - 1, 1 << 31, 1 << 32, 1<<32 + 1, api.MaxUnits - 1, api.MaxUnits} {
		s := strconv.Itoa(n)
		zeros := strings.Repeat("0", api.MaxText-1-len(s)) + s
		read(t, s, number(s, n, 0))
		read(t, " 00"+s+" ", number("00"+s, n, 1))
		read(t, ";"+zeros, symbol(";", 0), number(zeros, n, 1))
	}
	for _, s := range []string{
		"1099511627777",        // MaxUnits + 1
		"1099511627780",        // with less digits than the next ones, and more than MaxUnits
		"10995116277760",       // ten times MaxUnits
		"9223372036854775807",  // the greatest int
		"9223372036854775808",  // -2^63, if it wraps around
		"18446744073709551616", // 0, if it wraps around
		"18446744073709551617", // 1, if it wraps around
		"36893488147419103232", // 2^65
		strings.Repeat("9", 500),
		"1" + strings.Repeat("0", 64), // 0 modulo 2^64
	} {
		refuse(t, s, 0, api.ErrLimit)
		refuse(t, "000"+s, 0, api.ErrLimit)
		refuse(t, "x "+s+" y", 2, api.ErrLimit)
		refuse(t, "1"+"\n"+s+"a", 2, api.ErrLimit)
	}
	refuse(t, strings.Repeat("1", api.MaxText), 0, api.ErrLimit)
}

// P7.2: of several things that are wrong, the first one is told.
func TestErrors(t *testing.T) {
	refuse(t, "a-b", 1, api.ErrForm)
	refuse(t, "x 1099511627777", 2, api.ErrLimit)
	refuse(t, "ok; _ A -", 4, api.ErrForm)
	refuse(t, "- a2345678901234567", 0, api.ErrForm)
	refuse(t, "a2345678901234567 -", 0, api.ErrLimit)
	refuse(t, "1099511627777 a2345678901234567", 0, api.ErrLimit)
	refuse(t, "a23456789012345-", 15, api.ErrForm)
	refuse(t, "a2345678901234567A", 0, api.ErrLimit)
	refuse(t, "# -\n\t- #", 5, api.ErrForm)
	refuse(t, "a - >", 2, api.ErrForm)
	refuse(t, "a -\n>", 2, api.ErrForm)
	refuse(t, "-#>", 0, api.ErrForm)
	refuse(t, "-", 0, api.ErrForm)
	refuse(t, "--> 1", 0, api.ErrForm)
	refuse(t, "a \"b\"", 2, api.ErrForm)
	refuse(t, "a é", 2, api.ErrForm)
	refuse(t, "aé", 1, api.ErrForm)
	refuse(t, "a\u00a0b", 1, api.ErrForm)
	refuse(t, "a\x00", 1, api.ErrForm)
	refuse(t, "١", 0, api.ErrForm) // a digit that is no byte
}

// P7.1 and P7.2: a text may have MaxText bytes; a longer one is refused with the offset 0, whatever else is wrong with it.
func TestLongTexts(t *testing.T) {
	read(t, strings.Repeat(" ", api.MaxText))
	read(t, strings.Repeat("\n", api.MaxText))
	read(t, strings.Repeat("#", api.MaxText))
	read(t, strings.Repeat("# -\n", api.MaxText/4))
	read(t, strings.Repeat(" ", api.MaxText-1)+"a", word("a", api.MaxText-1))
	refuse(t, strings.Repeat(" ", api.MaxText-1)+"-", api.MaxText-1, api.ErrForm)
	refuse(t, strings.Repeat(" ", api.MaxText-17)+strings.Repeat("a", 17), api.MaxText-17, api.ErrLimit)
	var want []lexer.Token
	for at := range api.MaxText {
		want = append(want, symbol(";", at))
	}
	read(t, strings.Repeat(";", api.MaxText), want...)
	for _, s := range []string{" ", ";", "#", "a", "1", "\n", "-", "a ", "-\n"} {
		refuse(t, " -"+strings.Repeat(s, api.MaxText-1), 0, api.ErrLimit)
		refuse(t, strings.Repeat(s, api.MaxText+1), 0, api.ErrLimit)
	}
	refuse(t, strings.Repeat(" ", 1<<20), 0, api.ErrLimit)
}

// gap is what may be in front of a token, and rows are the rows of the chapter's table.
var (
	gap  = regexp.MustCompile(`^(?:[ \t\n]|#[^\n]*)*`)
	rows = []*regexp.Regexp{
		lexer.Word:   regexp.MustCompile(`^[a-z][a-z0-9_]*`),
		lexer.Number: regexp.MustCompile(`^[0-9]+`),
		lexer.Symbol: regexp.MustCompile(`^(?:->|[:;,(){}=<>+.])`),
	}
)

// expected returns what Tokens has to return for a text that is not too long. It takes the text apart by regular expressions.
func expected(s string) (l []lexer.Token, at int, e api.Errno) {
	for {
		at += len(gap.FindString(s[at:]))
		if at == len(s) {
			return l, 0, api.OK
		}
		kind := slices.IndexFunc(rows, func(row *regexp.Regexp) bool { return row.MatchString(s[at:]) })
		if kind < 0 {
			return nil, at, api.ErrForm
		}
		token := lexer.Token{Kind: kind, Text: rows[kind].FindString(s[at:]), At: at}
		if kind == lexer.Number {
			n, err := strconv.ParseUint(token.Text, 10, 64)
			if err != nil || n > api.MaxUnits {
				return nil, at, api.ErrLimit
			}
			token.N = int(n)
		}
		if kind == lexer.Word && len(token.Text) > api.MaxWord {
			return nil, at, api.ErrLimit
		}
		l = append(l, token)
		at += len(token.Text)
	}
}

// texts returns texts that look random, many of which are without an error.
func texts() []string {
	parts := append(symbols(), "a", "z", "rule", "x_1", "a234567890123456", "a2345678901234567", "0", "7", "12", "007", "1099511627776", "1099511627777", " ", " ", " ", "\n", "\t", "# c-#\n", "#", "_", "-", "A", "é", "\x80")
	l := []string{""}
	for label := range 3000 {
		usual := len(parts) - sample(10, label, 0) // without some of the parts with which a text is wrong
		var s strings.Builder
		for i := range 1 + sample(24, label, 1) {
			s.WriteString(parts[sample(usual, label, 2, i)])
		}
		l = append(l, s.String())
	}
	return l
}

// P7.1 and P7.2: all texts of two bytes, all texts of up to five bytes of the kinds that there are, and longer ones.
func TestAgainstExpressions(t *testing.T) {
	check := func(s string) {
		if l, at, e := expected(s); e != api.OK {
			refuse(t, s, at, e)
		} else {
			read(t, s, l...)
		}
	}
	for b := range 1 << 16 {
		check(string([]byte{byte(b >> 8), byte(b)}))
	}
	kinds := " \n#a0_->:A"
	for n := range 100000 {
		s := make([]byte, 5)
		for i, left := 0, n; i < len(s); i++ {
			s[i] = kinds[left%len(kinds)]
			left /= len(kinds)
		}
		check(string(s))
	}
	for _, s := range texts() {
		check(s)
	}
}

// P7.4: the tokens stand at their offsets, in order, and nothing but blanks and comments is between them.
func TestText(t *testing.T) {
	between := regexp.MustCompile(`^(?:[ \t\n]|#[^\n]*\n)*(?:#[^\n]*)?$`)
	for _, s := range texts() {
		l, _, e := lexer.Tokens(s)
		if e != api.OK {
			continue
		}
		end := 0
		for _, token := range append(l, symbol("", len(s))) {
			if token.At < end || !strings.HasPrefix(s[token.At:], token.Text) || !between.MatchString(s[end:token.At]) {
				t.Errorf("Tokens(%q) = %v: %v", s, l, token)
				break
			}
			end = token.At + len(token.Text)
		}
	}
}

// moved returns tokens as they are that many bytes farther back.
func moved(l []lexer.Token, by int) []lexer.Token {
	l = slices.Clone(l)
	for i := range l {
		l[i].At += by
	}
	return l
}

// P7.5: tokens with a blank or a line feed in front of each of them, and two texts that are joined by a line feed.
func TestApart(t *testing.T) {
	last, lastTokens := "", []lexer.Token(nil)
	for i, s := range texts() {
		l, _, e := lexer.Tokens(s)
		if e != api.OK {
			continue
		}
		var apart strings.Builder
		want := slices.Clone(l)
		for j, token := range l {
			apart.WriteString([]string{" ", "\n"}[sample(2, i, j)])
			want[j].At = apart.Len()
			apart.WriteString(token.Text)
		}
		read(t, apart.String(), want...)
		read(t, last+"\n"+s, append(slices.Clone(lastTokens), moved(l, len(last)+1)...)...)
		last, lastTokens = s, l
	}
}

// P7.6: the text in front of an error has none, and the text up to the end of its line has the same one.
func TestLines(t *testing.T) {
	wrong := 0
	for _, s := range texts() {
		_, at, e := lexer.Tokens(s)
		if e == api.OK {
			continue
		}
		wrong++
		if _, _, e := lexer.Tokens(s[:at]); e != api.OK {
			t.Errorf("Tokens(%q): %d", s[:at], e)
		}
		line, _, _ := strings.Cut(s[at:], "\n")
		refuse(t, s[:at]+line, at, e)
		refuse(t, s[:at]+line+"\n- _ a2345678901234567", at, e)
	}
	if wrong < 500 {
		t.Error(wrong)
	}
}

// P7.3: lines and columns, at line feeds, at both ends and outside.
func TestPosition(t *testing.T) {
	for _, c := range []struct {
		s                string
		at, line, column int
	}{
		{"ab\nc", 3, 2, 1},
		{"ab\nc", 0, 1, 1},
		{"ab\nc", 1, 1, 2},
		{"ab\nc", 2, 1, 3},
		{"ab\nc", 4, 2, 2},
		{"ab\nc", 5, 2, 2},
		{"ab\nc", math.MaxInt, 2, 2},
		{"ab\nc", -1, 1, 1},
		{"ab\nc", math.MinInt, 1, 1},
		{"", 0, 1, 1},
		{"", 1, 1, 1},
		{"", -1, 1, 1},
		{"\n", 0, 1, 1},
		{"\n", 1, 2, 1},
		{"\n", 2, 2, 1},
		{"\n\n\n", 1, 2, 1},
		{"\n\n\n", 2, 3, 1},
		{"\n\n\n", 3, 4, 1},
		{"a\r\tb", 3, 1, 4}, // no other byte ends a line
		{"éa\né", 2, 1, 3},  // columns are counted in bytes
		{"éa\né", 5, 2, 2},
		{"# c\n - ", 5, 2, 2},
	} {
		if line, column := lexer.Position(c.s, c.at); line != c.line || column != c.column {
			t.Errorf("Position(%q, %d) = %d, %d, want %d, %d", c.s, c.at, line, column, c.line, c.column)
		}
	}
}

// P7.3: all offsets of texts, also of one that is too long for Tokens.
func TestPositions(t *testing.T) {
	for _, s := range append(texts()[:500], strings.Repeat("abc\n", api.MaxText)) {
		line, column := 1, 1
		for at := range len(s) + 1 {
			if gotLine, gotColumn := lexer.Position(s, at); gotLine != line || gotColumn != column {
				t.Errorf("Position(%q, %d) = %d, %d, want %d, %d", s, at, gotLine, gotColumn, line, column)
				return
			}
			column++
			if at < len(s) && s[at] == '\n' {
				line, column = line+1, 1
			}
		}
	}
}

// R3: results share no memory with each other or with the text.
func TestMemory(t *testing.T) {
	s := "rule a 12;"
	want := []lexer.Token{word("rule", 0), word("a", 5), number("12", 12, 7), symbol(";", 9)}
	l, _, _ := lexer.Tokens(s)
	if unsafe.StringData(l[0].Text) == unsafe.StringData(s) {
		t.Error("a token is a part of the text")
	}
	l[0] = symbol("+", 3)
	read(t, s, want...)
}
