package tokens

import (
	"strings"

	"columnseven/api"
	"columnseven/chars"
)

func isDigit(c byte) bool { return '0' <= c && c <= '9' }

// isInWord reports whether a word may contain a character: a letter, a digit or a hyphen.
func isInWord(c byte) bool {
	return 'A' <= c && c <= 'Z' || 'a' <= c && c <= 'z' || isDigit(c) || c == '-'
}

// span returns how many bytes at the beginning of a text are wanted.
func span(s string, wanted func(byte) bool) int {
	for i := range len(s) {
		if !wanted(s[i]) {
			return i
		}
	}
	return len(s)
}

// isEnd reports whether a text begins with a space, or is empty.
func isEnd(rest string) bool { return rest == "" || rest[0] == space }

// cutWord returns the tokens in front of the last one, and whether this is a word.
func cutWord(l []api.Token, text string) ([]api.Token, bool) {
	n := len(l) - 1
	if n < 0 || l[n].Kind != api.Word || l[n].Text != text {
		return nil, false
	}
	return l[:n], true
}

// endsWithPic reports whether the last token is the word PIC or PICTURE.
func endsWithPic(l []api.Token) bool {
	_, short := cutWord(l, "PIC")
	_, long := cutWord(l, "PICTURE")
	return short || long
}

// picture returns the picture at the beginning of a text.
func picture(rest string) (api.Token, int, api.Errno) {
	all := rest[:span(rest, func(c byte) bool { return c != space })]
	text := strings.TrimRight(all, ".,;")
	if text == "" || len(all)-len(text) > 1 || strings.IndexByte(text, quote) >= 0 {
		return api.Token{}, 0, api.ErrForm
	}
	return api.Token{Kind: api.Picture, Text: chars.Fold(text)}, len(text), api.OK
}

// literal returns the literal at the beginning of a text, where a quote stands.
func literal(rest string) (api.Token, int, api.Errno) {
	n := 1
	for {
		i := strings.IndexByte(rest[n:], quote)
		if i < 0 {
			return api.Token{}, 0, api.ErrForm
		}
		n += i + 1
		if !strings.HasPrefix(rest[n:], oneQuote) {
			break
		}
		n++
	}
	text := strings.ReplaceAll(rest[1:n-1], twoQuotes, oneQuote)
	if text == "" {
		return api.Token{}, 0, api.ErrForm
	}
	return api.Token{Kind: api.Quote, Text: text}, n, api.OK
}

// numberLength returns how many characters at the beginning of a text that is not empty are a number, or 0; signed tells whether it may have a sign.
func numberLength(rest string, signed bool) int {
	sign := 0
	if signed && (rest[0] == '+' || rest[0] == '-') {
		sign = 1
	}
	n := sign + span(rest[sign:], isDigit)
	// A sign begins no word: a letter behind its digits is a fault, which number finds.
	if wordLength(rest) > n {
		return 0
	}
	if n < len(rest) && rest[n] == point {
		if fraction := span(rest[n+1:], isDigit); fraction > 0 {
			return n + 1 + fraction
		}
	}
	if n == sign {
		return 0
	}
	return n
}

// number returns the number that has n characters at the beginning of a text.
func number(rest string, n int) (api.Token, int, api.Errno) {
	if span(rest[n:], isInWord) > 0 {
		return api.Token{}, 0, api.ErrForm
	}
	text, digits := rest[:n], 0
	for i := range n {
		if isDigit(text[i]) {
			digits++
		}
	}
	if digits > api.MaxDigits {
		return api.Token{}, 0, api.ErrWidth
	}
	return api.Token{Kind: api.Number, Text: text}, n, api.OK
}

// wordLength returns how many characters at the beginning of a text that is not empty are a word, or 0.
func wordLength(rest string) int {
	if rest[0] == '-' {
		return 0
	}
	return span(rest, isInWord)
}

// word returns the word that a text is.
func word(text string) (api.Token, int, api.Errno) {
	folded := chars.Fold(text)
	if chars.IsName(folded) {
		return api.Token{Kind: api.Word, Text: folded}, len(text), api.OK
	}
	// IsName does not tell whether a long word is a name apart from its length.
	hasLetter := strings.Trim(folded, "0123456789-") != ""
	if len(folded) > api.MaxName && hasLetter && !strings.HasSuffix(folded, "-") {
		return api.Token{}, 0, api.ErrWidth
	}
	return api.Token{}, 0, api.ErrForm
}
