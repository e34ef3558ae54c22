package columns

import (
	"slices"
	"strings"

	"columnseven/api"
	"columnseven/chars"
)

// row is a line of a source text.
type row struct {
	number int
	text   string
}

func (l row) at(column int) api.Pos {
	return api.Pos{Line: l.number, Column: column}
}

func (l row) fault(e api.Errno, column int) api.Fault {
	return api.Fault{E: e, At: l.at(column)}
}

func (l row) indicator() byte {
	if len(l.text) < markColumn {
		return space
	}
	return l.text[markColumn-1]
}

// from returns the characters of areas A and B from a column on.
func (l row) from(column int) string {
	end := min(len(l.text), lastColumn)
	return l.text[min(column-1, end):end]
}

// first returns the column of the first character of areas A and B that is not a space; if there is none, that behind the last one.
func (l row) first() int {
	areas := l.from(areaA)
	return areaA + len(areas) - len(strings.TrimLeft(areas, " "))
}

// isBlank reports whether there is nothing but spaces in areas A and B.
func (l row) isBlank() bool {
	return l.from(l.first()) == ""
}

// check finds the faults that a line has whatever stands around it.
func (l row) check() api.Fault {
	if len(l.text) > api.MaxLine {
		return l.fault(api.ErrWidth, api.MaxLine+1)
	}
	for i := range len(l.text) {
		if !chars.Printable(l.text[i : i+1]) {
			return l.fault(api.ErrForm, i+1)
		}
	}
	if strings.IndexByte(" -*/Dd", l.indicator()) < 0 {
		return l.fault(api.ErrForm, markColumn)
	}
	return api.Fault{}
}

// reader collects the cards of a source text.
type reader struct {
	cards []Card
	text  []byte  // that of the last card, which is not in the card before it is complete: a string would be copied for each part
	open  bool    // the text is open
	last  api.Pos // where the part that was added last begins: the last Mark does not tell, as an empty part has none
	opens func(part string) bool
}

// begin makes the first line of a card.
func (r *reader) begin(l row) api.Fault {
	if f := r.finish(); f != (api.Fault{}) {
		return f
	}
	column := l.first()
	r.cards = append(r.cards, Card{Left: column < areaB})
	r.add(l, column)
	return api.Fault{}
}

// resume adds a continuation to the last card.
func (r *reader) resume(l row) api.Fault {
	if len(r.cards) == 0 {
		return l.fault(api.ErrState, markColumn)
	}
	column := l.first()
	if column < areaB || r.open && l.text[column-1] != quote {
		return l.fault(api.ErrForm, column)
	}
	if r.open {
		column++
	}
	r.add(l, column)
	return api.Fault{}
}

// add appends the part of a line that begins in a column.
func (r *reader) add(l row, column int) {
	part := l.from(column)
	r.open, r.last = r.opens(part), l.at(column)
	if r.open {
		part += strings.Repeat(" ", lastColumn+1-column-len(part))
	} else {
		part = strings.TrimRight(part, " ")
	}
	if part == "" {
		return
	}
	c := &r.cards[len(r.cards)-1]
	c.Marks = append(c.Marks, Mark{From: len(r.text), At: r.last})
	r.text = append(r.text, part...)
}

// finish completes the last card, which no line continues any more.
func (r *reader) finish() api.Fault {
	if len(r.cards) == 0 {
		return api.Fault{}
	}
	if r.open {
		return api.Fault{E: api.ErrForm, At: r.last}
	}
	c := &r.cards[len(r.cards)-1]
	c.Text = string(r.text)
	c.Marks = slices.Clip(c.Marks)
	r.text = r.text[:0]
	return api.Fault{}
}

// Read returns the logical lines of a source text; debug tells whether debugging lines count.
func Read(text string, debug bool) ([]Card, api.Fault) {
	if len(text) > api.MaxText {
		return nil, api.Fault{E: api.ErrLimit}
	}
	r := &reader{opens: newOpener()}
	// What Split returns behind a byte 10 at the end is no line of the text, but is ignored like any blank line.
rows:
	for i, s := range strings.Split(text, "\n") {
		l := row{number: i + 1, text: s}
		if f := l.check(); f != (api.Fault{}) {
			return nil, f
		}
		take := r.begin
		switch l.indicator() {
		case '*', '/':
			continue rows
		case 'D', 'd':
			if !debug {
				continue rows
			}
		case '-':
			take = r.resume
		}
		if l.isBlank() {
			continue rows
		}
		if f := take(l); f != (api.Fault{}) {
			return nil, f
		}
	}
	if f := r.finish(); f != (api.Fault{}) {
		return nil, f
	}
	return slices.Clip(r.cards), api.Fault{}
}
