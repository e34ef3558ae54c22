package copies

import (
	"reflect"
	"strconv"
	"strings"
	"testing"

	"columnseven/api"
)

// checkUses checks the names in the COPY statements of a text, separated by spaces.
func checkUses(t *testing.T, text, want string) {
	t.Helper()
	got, f := Uses(list(t, text))
	if f != (api.Fault{}) || strings.Join(got, " ") != want || len(got) != cap(got) {
		t.Errorf("%s: %q in a slice of %d, %v instead of %s", text, got, cap(got), f, want)
	}
}

// checkUsesFault checks that a text has a fault, and no names.
func checkUsesFault(t *testing.T, text string, want api.Fault) {
	t.Helper()
	if got, f := Uses(list(t, text)); f != want || len(got) != 0 {
		t.Errorf("%s: %q, %v instead of %v", text, got, f, want)
	}
}

// P4.3

func TestUses(t *testing.T) {
	checkUses(t, "", "")
	checkUses(t, "MOVE A TO B.", "")
	checkUses(t, `"COPY" A. PIC COPY.`, "")
	checkUses(t, "COPY A.", "A")
	checkUses(t, `COPY "A".`, "A")
	checkUses(t, `COPY B. COPY "a". COPY A. COPY "A". COPY B.`, "B a A")
	checkUses(t, "01 R. COPY Z. 02 S. COPY Y. MOVE", "Z Y")
	checkUses(t, "COPY COPY. COPY REPLACING. COPY BY.", "COPY REPLACING BY")
	checkUses(t, "COPY B REPLACING X BY Y ==A. COPY C. == BY ==COPY D. ==. COPY E REPLACING COPY BY COPY.", "B E")
	checkUses(t, `COPY "x" REPLACING "A" BY 1 -2 BY ====. COPY A.`, "x A")
}

func TestUsesFaults(t *testing.T) {
	checkUsesFault(t, "COPY A REPLACING X.", fault(api.ErrForm, 1, 30))
	checkUsesFault(t, "COPY A", fault(api.ErrForm, 1, 12))
	checkUsesFault(t, "COPY A. COPY B. COPY", fault(api.ErrForm, 1, 28))
}

// Neither how many COPY statements nor how many tokens there are matters.
func TestUsesHasNoLimit(t *testing.T) {
	var l []api.Token
	for i := range MaxCopies * 8 {
		l = append(l, tok(api.Word, "COPY"), tok(api.Quote, strconv.Itoa(i)), tok(api.Period, "."))
	}
	got, f := Uses(l)
	if f != (api.Fault{}) || len(got) != MaxCopies*8 || got[17] != "17" || len(got) != cap(got) {
		t.Errorf("%d names, %v", len(got), f)
	}
}

func TestUsesKeepsNoMemory(t *testing.T) {
	text := "COPY A. COPY B REPLACING X BY ==Y==."
	l := list(t, text)
	got, _ := Uses(l)
	got[0] = "?"
	again, f := Uses(l)
	if f != (api.Fault{}) || !reflect.DeepEqual(again, []string{"A", "B"}) || !reflect.DeepEqual(l, list(t, text)) {
		t.Errorf("%q, %v, %v", again, f, l)
	}
}
