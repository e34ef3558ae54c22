package tokens

import (
	"strings"
	"testing"

	"columnseven/api"
)

// P3.1: numbers, words and signs

func TestNumbers(t *testing.T) {
	checkScan(t, "Number 0|Number 007|Number 1.5|Number 1.50|Number .5|Number 00.00", "0 007 1.5 1.50 .5 00.00")
	checkScan(t, "Number -1|Number +1|Number -.5|Number +.5|Number -1.5|Number +1.5", "-1 +1 -.5 +.5 -1.5 +1.5")
	checkScan(t, "Number 1|Period|Number 1.5|Period|Number .5|Period|Number -1|Period", "1. 1.5. .5. -1.")
	checkScan(t, "Number 1.5|Number .5|Word A|Number .5", "1.5.5 A.5")
	checkScan(t, "Number 1|Sign (|Number 2|Sign )|Number 3", "1(2)3")
	checkScan(t, "Number 1|Quote A|Number 1|Sign :|Number 2|Sign *|Number 3", `1"A" 1:2*3`)
	checkScan(t, "Number 1|Pseudo|Number 2", "1==2")
	checkBad(t, api.ErrForm, "1.A", 1)
	checkBad(t, api.ErrForm, "1..5", 1)
	checkBad(t, api.ErrForm, "-.A", 1)
}

func TestSignsOfNumbers(t *testing.T) {
	checkScan(t, "Word A|Number -1|Word A|Sign -|Number 1", "A -1 A - 1")
	checkScan(t, "Sign (|Number -1|Sign )|Sign (|Number +.5|Sign )", "(-1)(+.5)")
	checkScan(t, "Sign (|Sign (|Number -1|Sign +|Number 2|Sign )", "((-1+2)")
	checkScan(t, "Word A|Sign +|Number 1|Sign )|Sign -|Number 1|Quote A|Sign -|Number 1", `A+1 )-1 "A"-1`)
	checkScan(t, "Sign =|Sign -|Number 1|Sign *|Sign +|Number .5", "=-1 *+.5")
	checkScan(t, "Sign +|Sign -|Number 1|Sign -|Number -1", "+-1 - -1")
	checkScan(t, "Number 1|Sign +|Number 2|Number .5|Sign -|Number 1", "1+2 .5 - 1")
	checkScan(t, "Word A|Number -1|Word B|Number +2", "A, -1; B +2")
	checkScan(t, "Sign -|Word A|Sign +|Sign (|Sign -|Quote A", `-A +( -"A"`)
	checkScan(t, "Sign -|Period", "-.")
	checkScan(t, "Number -1", "-1")
	checkScan(t, "Pseudo|Sign -|Number 1|Pseudo", "==-1==")
}

func TestDigitsThatAreNoNumber(t *testing.T) {
	checkScan(t, "Word 1A|Word 01-REC|Word 1-A|Word 2B2|Word 9Z", "1A 01-rec 1-A 2B2 9z")
	checkScan(t, "Word 1234567890123456789012345678A", "1234567890123456789012345678A")
	for _, s := range []string{"1-", "1-2", "1-2-3", "1--2", "1-2.5", "1A-", "-1A", "+1-", "-1-2", "-1-A", "1.5A", "1.5-", "1.5-2", ".5A", ".5-1", "-.5x", "-1.5z", "+1Z.5"} {
		checkBad(t, api.ErrForm, s, 0)
		checkBad(t, api.ErrForm, "A ("+s+")", 3)
	}
	checkBad(t, api.ErrForm, "A.5B", 1)
}

func TestDigitsOfNumbers(t *testing.T) {
	d := strings.Repeat("7", api.MaxDigits)
	for _, s := range []string{d, "-" + d, "+" + d, "." + d, "-." + d, d[:17] + "." + d[17:], "1." + d[1:], "+" + d[:9] + "." + d[9:]} {
		checkScan(t, "Number "+s+"|Period", s+".")
		checkBad(t, api.ErrWidth, s+"0", 0)
		checkBad(t, api.ErrWidth, "A "+s+"0 B", 2)
	}
	checkBad(t, api.ErrWidth, d+".0", 0)
	checkBad(t, api.ErrWidth, strings.Repeat("0", 1000), 0)
	// What does not fit a Number comes before its width.
	checkBad(t, api.ErrForm, "-"+d+"0A", 0)
	checkBad(t, api.ErrForm, d+".0-", 0)
	checkBad(t, api.ErrForm, d+"0-", 0)
	checkScan(t, "Word "+d+"0A", d+"0A")
}

func TestWords(t *testing.T) {
	checkScan(t, "Word MOVE|Word TO|Word AZ09-AZ|Word A--B", "Move to az09-AZ A--b")
	checkScan(t, "Word A|Sign (|Word B|Sign )|Word C", "A(B)C")
	checkScan(t, "Word A|Pseudo|Word B|Sign =|Word C", "A==B=C")
	for _, s := range []string{"A-", "a-", "A--", "A-B-", "1A-"} {
		checkBad(t, api.ErrForm, s, 0)
		checkBad(t, api.ErrForm, s+".", 0)
		checkBad(t, api.ErrForm, "A "+s+" B", 2)
	}
	checkScan(t, "Sign -|Word A|Sign -|Sign -|Word B", "-A --B")
}

func TestWidthOfWords(t *testing.T) {
	a := strings.Repeat("A", api.MaxName)
	digits := strings.Repeat("1", api.MaxName)
	for _, s := range []string{a, digits[1:] + "A", a[:28] + "-1", "1-" + a[2:]} {
		checkScan(t, "Word "+s, s)
		checkBad(t, api.ErrWidth, s+"B", 0)
		checkBad(t, api.ErrWidth, "X "+s+"1.", 2)
		checkBad(t, api.ErrWidth, strings.ToLower(s)+"-z", 0)
		checkBad(t, api.ErrForm, s+"-", 0)
		checkBad(t, api.ErrForm, s+"B-", 0)
	}
	checkBad(t, api.ErrWidth, strings.Repeat("a", 1000), 0)
	checkBad(t, api.ErrWidth, digits+"A1", 0)
	checkBad(t, api.ErrForm, digits+"-1", 0)
	checkBad(t, api.ErrForm, strings.Repeat("1-", 40)+"1", 0)
	checkBad(t, api.ErrForm, strings.Repeat("1-", 40), 0)
}

func TestSigns(t *testing.T) {
	for _, s := range []string{"(", ")", ":", "+", "-", "*", "/", "**", "=", "<", ">", "<=", ">=", "<>"} {
		checkScan(t, "Sign "+s, s)
		checkScan(t, "Word A|Sign "+s+"|Word B|Sign "+s, "A "+s+" B "+s+" ")
		checkScan(t, "Sign "+s+"|Quote A", s+`"A"`)
	}
	checkScan(t, "Sign **|Sign *|Sign **|Sign **", "*** ****")
	checkScan(t, "Sign <|Sign <|Sign >|Sign >|Sign >|Sign <|Sign =|Sign >|Sign =|Sign <", "<< >> >< => =<")
	checkScan(t, "Sign <>|Sign =|Sign <=|Sign >|Sign >=|Sign >", "<>= <=> >=>")
	checkScan(t, "Sign (|Sign )|Sign (|Sign )|Sign :|Sign :", "()():: ")
	checkScan(t, "Sign +|Sign +|Sign -|Sign -|Sign /|Sign /", "++ -- //")
}

func TestOtherCharacters(t *testing.T) {
	for c := range 256 {
		b := string([]byte{byte(c)})
		letter := c >= 'A' && c <= 'Z' || c >= 'a' && c <= 'z' || c >= '0' && c <= '9'
		if letter || strings.Contains(" \"():+-*/=<>,;.", b) {
			continue
		}
		checkBad(t, api.ErrForm, b, 0)
		checkBad(t, api.ErrForm, "A "+b+" B", 2)
		checkBad(t, api.ErrForm, "A"+b+"B", 1)
	}
}
