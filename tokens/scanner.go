package tokens

import (
	"strings"

	"columnseven/api"
	"columnseven/chars"
	"columnseven/columns"
)

// The signs: the longer ones first, as the longest one that stands there counts.
var signs = [...]string{"**", "<=", ">=", "<>", "(", ")", ":", "+", "-", "*", "/", "=", "<", ">"}

// scanner reads the tokens of a card, which is valid.
type scanner struct {
	columns.Card             // without the Marks that have been passed
	next         int         // the index of the first byte that is not read yet
	tokens       []api.Token // also those of the cards before: a picture may begin its card
}

// scan reads all tokens of the card.
func (s *scanner) scan() api.Fault {
	for s.skip(); s.next < len(s.Text); s.skip() {
		at := s.here()
		t, n, e := s.read(s.Text[s.next:])
		if e == api.OK && len(s.tokens) == api.MaxTokens {
			e = api.ErrLimit
		}
		if e != api.OK {
			return api.Fault{E: e, At: at}
		}
		t.At, t.Left = at, at.Column < areaB
		s.tokens = append(s.tokens, t)
		s.next += n
	}
	return api.Fault{}
}

// skip passes separators.
func (s *scanner) skip() {
separators:
	for s.next < len(s.Text) {
		switch s.Text[s.next] {
		case space:
		case ',', ';':
			if s.expectsPicture() || !isEnd(s.Text[s.next+1:]) {
				break separators
			}
		default:
			break separators
		}
		s.next++
	}
}

// here returns the position of the next byte. Not by columns.At, which looks at all Marks for each byte: a card may have as many as tokens.
func (s *scanner) here() api.Pos {
	for len(s.Marks) > 1 && s.Marks[1].From <= s.next {
		s.Marks = s.Marks[1:]
	}
	m := s.Marks[0]
	return api.Pos{Line: m.At.Line, Column: m.At.Column + s.next - m.From}
}

// isSeparated reports whether a sign that stands here can belong to a number.
func (s *scanner) isSeparated() bool {
	return s.next == 0 || s.Text[s.next-1] == space || s.Text[s.next-1] == '('
}

// expectsPicture reports whether the tokens so far are those that stand in front of a picture.
func (s *scanner) expectsPicture() bool {
	before, found := cutWord(s.tokens, "IS")
	return endsWithPic(s.tokens) || found && endsWithPic(before)
}

// beginsPicture reports whether a text that is not empty begins with a picture.
func (s *scanner) beginsPicture(rest string) bool {
	if !s.expectsPicture() || strings.HasPrefix(rest, equals) {
		return false
	}
	// The word ends where any word does, not at the next space: in ==PIC IS== a Pseudo follows it.
	isIs := chars.Fold(rest[:wordLength(rest)]) == "IS"
	return !isIs || !endsWithPic(s.tokens)
}

// read returns the token at the beginning of a text that is not empty, and how many bytes it has there.
func (s *scanner) read(rest string) (api.Token, int, api.Errno) {
	switch {
	case s.beginsPicture(rest):
		return picture(rest)
	case rest[0] == quote:
		return literal(rest)
	case rest[0] == point && isEnd(rest[1:]):
		return api.Token{Kind: api.Period, Text: period}, len(period), api.OK
	case strings.HasPrefix(rest, equals):
		return api.Token{Kind: api.Pseudo, Text: equals}, len(equals), api.OK
	}
	if n := numberLength(rest, s.isSeparated()); n > 0 {
		return number(rest, n)
	}
	if n := wordLength(rest); n > 0 {
		return word(rest[:n])
	}
	for _, x := range signs {
		if strings.HasPrefix(rest, x) {
			return api.Token{Kind: api.Sign, Text: x}, len(x), api.OK
		}
	}
	return api.Token{}, 0, api.ErrForm
}
