package columns

import (
	"strconv"
	"strings"

	"columnseven/api"
	"columnseven/chars"
)

// What stands in front of a text or a rest of it, from the indicator on.
const (
	headA      = " "
	headB      = "     "
	headMore   = "-    "
	headQuoted = `-    "`
)

// writer collects the lines of a source text.
type writer struct {
	out   []byte
	lines int
}

// line appends a line, and reports whether the source text is still within its limit.
func (w *writer) line(head, part string) bool {
	w.lines++
	number := strconv.Itoa(1000000 + w.lines%1000000)
	w.out = append(w.out, number[1:]...)
	w.out = append(w.out, head...)
	w.out = append(w.out, part...)
	w.out = append(w.out, '\n')
	return len(w.out) <= api.MaxText
}

// lastSpace returns the index of the last space outside of quotes, but not at index 0, or else 0; open tells whether s begins within quotes.
func lastSpace(s string, open bool) int {
	at := 0
	for i := range len(s) {
		if s[i] == quote {
			open = !open
		} else if s[i] == space && !open {
			at = i
		}
	}
	return at
}

// text lays out a text, and reports whether the source text is still within its limit.
func (w *writer) text(x Line) bool {
	head, rest := headB, x.Text
	if x.Left {
		head = headA
	}
	open, opens := false, newOpener()
	for {
		n := lastColumn + 1 - markColumn - len(head)
		if len(rest) <= n {
			return w.line(head, rest)
		}
		end := lastSpace(rest[:n+1], open)
		divided := end > 0
		if !divided {
			end = n
		}
		if !w.line(head, rest[:end]) {
			return false
		}
		open = opens(rest[:end])
		rest = rest[end:]
		switch {
		case divided:
			head, rest = headB, strings.TrimLeft(rest, " ")
		case open:
			head = headQuoted
		default:
			head = headMore
		}
	}
}

// isComplete reports whether a text can be laid out so that it is read again.
func isComplete(s string) bool {
	if s == "" || !chars.Printable(s) || s[0] == space || s[len(s)-1] == space {
		return false
	}
	return !newOpener()(s)
}

// Write lays out lines in columns.
func Write(l []Line) (string, api.Errno) {
	for _, x := range l {
		if !isComplete(x.Text) {
			return "", api.ErrArg
		}
	}
	w := &writer{}
	for _, x := range l {
		if !w.text(x) {
			return "", api.ErrLimit
		}
	}
	return string(w.out), api.OK
}
