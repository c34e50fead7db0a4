package text_test

import (
	"slices"
	"strings"
	"testing"

	"tutor/api"
	"tutor/machine"
	"tutor/text"
)

// imports holds Import against what is wanted.
func imports(t *testing.T, s string, want imported) {
	t.Helper()
	if got := importOf(s); !equalImported(got, want) {
		t.Errorf("%.100q: %.200v, %d at %d, not %.200v, %d at %d", s, got.m, got.e, got.at, want.m, want.e, want.at)
	}
}

// The promises name these numbers.
func TestLimits(t *testing.T) {
	got := []int{api.Dfa, api.Mealy, api.MaxAlphabet, api.MaxStates, api.MaxOutputs, api.MaxText}
	if want := []int{1, 2, 64, 1024, 64, 16777216}; !slices.Equal(got, want) {
		t.Errorf("limits are %v, not %v", got, want)
	}
	errors := []api.Errno{api.ErrArg, api.ErrLong, api.ErrMany, api.ErrForm, api.ErrState, api.ErrOut}
	if want := []api.Errno{1, 2, 3, 6, 32, 33}; !slices.Equal(errors, want) {
		t.Errorf("errors are %v, not %v", errors, want)
	}
}

// P8.3.
func TestImport(t *testing.T) {
	for _, c := range []struct {
		s string
		m api.Machine
	}{
		{"dfa 1 2\n0 1\n1 0\n", dfa(1, []int{1, 0}, []int{0, 1})},
		{acceptorText, acceptor()},
		{transducerText, transducer()},
		{"dfa 1 1\n0 0\n", dfa(1, []int{0}, []int{0})},
		{"dfa 1 1\n1 0\n", dfa(1, []int{0}, []int{1})},
		{"mealy 1 1 1\n0/0\n", mealy(1, 1, []int{0}, []int{0})},
		{"mealy 1 2 2\n1/0\n0/1\n", mealy(1, 2, []int{1, 0}, []int{0, 1})},
		{"mealy 3 64 1\n0/63 0/9 0/10\n", mealy(3, 64, []int{0, 0, 0}, []int{63, 9, 10})},
		{"dfa 64 1\n1" + strings.Repeat(" 0", 64) + "\n", dfa(64, make([]int, 64), []int{1})},
		{"dfa 1 1024\n" + strings.Repeat("1 1023\n", 1024), dfa(1, slices.Repeat([]int{1023}, 1024), slices.Repeat([]int{1}, 1024))},
	} {
		imports(t, c.s, imported{c.m, api.OK, len(c.s)})
	}
}

// P8.3: bytes that no text has there.
func TestImportForm(t *testing.T) {
	for _, c := range []struct {
		s  string
		at int
	}{
		// How a text begins.
		{"", 0}, {"x", 0}, {" ", 0}, {"\n", 0}, {"1", 0}, {" dfa 1 1\n0 0\n", 0}, {"\ufeffdfa 1 1\n0 0\n", 0},
		{"Dfa 1 1\n0 0\n", 0}, {"Mealy 1 1 1\n0/0\n", 0}, {"nfa 1 1\n0 0\n", 0}, {"\x00", 0},
		{"d", 1}, {"dx", 1}, {"df", 2}, {"dfb", 2}, {"dfA 1 1\n", 2}, {"dfa", 3}, {"dfa1 1\n", 3}, {"dfa\t1 1\n", 3}, {"dfa\n", 3}, {"dfas 1", 3}, {"ddfa", 1}, {"dealy", 1},
		{"m", 1}, {"mfa", 1}, {"me", 2}, {"mea", 3}, {"meal", 4}, {"mealY", 4}, {"meals", 4}, {"mealy", 5}, {"mealy1", 5}, {"mealyy", 5},

		// Where a number stands.
		{"dfa ", 4}, {"dfa  1 1\n", 4}, {"dfa x", 4}, {"dfa -1 1\n", 4}, {"dfa +1 1\n", 4}, {"dfa /", 4}, {"dfa :", 4}, {"dfa \n", 4},
		{"dfa 01", 5}, {"dfa 00 1\n", 5}, {"dfa 10000 1\n", 8}, {"dfa 99999 1\n", 8}, {"dfa 64000 1\n", 8},
		{"dfa 1 ", 6}, {"dfa 1 x", 6}, {"dfa 1  1\n", 6}, {"dfa 1 -1\n", 6}, {"dfa 1 01\n", 7}, {"dfa 1 00\n", 7}, {"dfa 1 10000\n", 10}, {"dfa 1 10240\n", 10},
		{"mealy ", 6}, {"mealy  1", 6}, {"mealy 1 ", 8}, {"mealy 1 x", 8}, {"mealy 1 01 1\n", 9}, {"mealy 1 10000 1\n", 12}, {"mealy 1 1 ", 10}, {"mealy 1 1 00\n", 11}, {"mealy 1 1 10000\n", 14},
		{"dfa 1 1\n", 8}, {"dfa 1 1\nx", 8}, {"dfa 1 1\n 0 0\n", 8}, {"dfa 1 1\n-1 0\n", 8}, {"dfa 1 1\n00 0\n", 9}, {"dfa 1 1\n01 0\n", 9}, {"dfa 1 1\n10000 0\n", 12},
		{"dfa 1 1\n0 ", 10}, {"dfa 1 1\n0 x", 10}, {"dfa 1 1\n0  0\n", 10}, {"dfa 1 1\n0 -1\n", 10}, {"dfa 1 1\n0 00\n", 11}, {"dfa 1 1\n0 10000\n", 14},
		{"mealy 1 1 1\n", 12}, {"mealy 1 1 1\nx", 12}, {"mealy 1 1 1\n/0\n", 12}, {"mealy 1 1 1\n00/0\n", 13}, {"mealy 1 1 1\n10000/0\n", 16},
		{"mealy 1 1 1\n0/", 14}, {"mealy 1 1 1\n0/x", 14}, {"mealy 1 1 1\n0//0\n", 14}, {"mealy 1 1 1\n0/ 0\n", 14}, {"mealy 1 1 1\n0/00\n", 15}, {"mealy 1 1 1\n0/10000\n", 18},

		// Behind a number.
		{"dfa 1", 5}, {"dfa 1\n", 5}, {"dfa 1/1\n", 5}, {"dfa 1x", 5}, {"dfa 1\t1\n", 5}, {"dfa 64", 6}, {"dfa 1 1", 7}, {"dfa 1 1 ", 7}, {"dfa 1 1x", 7}, {"dfa 1 1\r\n0 0\n", 7}, {"dfa 1 1 1\n", 7}, {"dfa 1 2 1\n0 0\n", 7}, {"dfa 1 1024", 10},
		{"mealy 1", 7}, {"mealy 1\n", 7}, {"mealy 1 1", 9}, {"mealy 1 1\n", 9}, {"mealy 1 1\n0/0\n", 9}, {"mealy 1 1 1", 11}, {"mealy 1 1 1 ", 11}, {"mealy 1 1 1\r\n", 11},
		{"dfa 1 1\n0", 9}, {"dfa 1 1\n0\n", 9}, {"dfa 1 1\n0/0\n", 9}, {"dfa 1 1\n0\t0\n", 9}, {"dfa 1 1\n0 0", 11}, {"dfa 1 1\n0 0 \n", 11}, {"dfa 1 1\n0 0 0\n", 11}, {"dfa 1 1\n0 0/0\n", 11}, {"dfa 1 1\n0 0\r\n", 11}, {"dfa 1 1\n0 0\x00", 11},
		{"dfa 2 1\n0 0\n", 11}, {"dfa 2 1\n0 0 0 0\n", 13},
		{"mealy 1 1 1\n0", 13}, {"mealy 1 1 1\n0 0\n", 13}, {"mealy 1 1 1\n0\n", 13}, {"mealy 1 1 1\n0/0", 15}, {"mealy 1 1 1\n0/0 ", 15}, {"mealy 1 1 1\n0/0 0/0\n", 15}, {"mealy 1 1 1\n0/0/0\n", 15}, {"mealy 1 1 1\n0/0\r\n", 15},
		{"mealy 2 1 1\n0/0\n", 15}, {"mealy 2 1 1\n0/0/0/0\n", 15}, {"mealy 2 1 1\n0/0 0 0\n", 17},

		// Too few states, and too many.
		{"dfa 1 2\n0 0\n", 12}, {"dfa 1 2\n0 0\n0 0", 15}, {"dfa 1 2\n0 0\n\n0 0\n", 12}, {"mealy 1 1 2\n0/0\n", 16}, {"mealy 1 1 2\n0/0\n0/0", 19},
		{"dfa 1 1\n0 0\n\n", 12}, {"dfa 1 1\n0 0\n0", 12}, {"dfa 1 1\n0 0\n0 0\n", 12}, {"dfa 1 1\n0 0\n ", 12}, {"dfa 1 1\n0 0\n\x00", 12}, {"dfa 1 1\n0 0\ndfa 1 1\n0 0\n", 12},
		{"mealy 1 1 1\n0/0\n\n", 16}, {"mealy 1 1 1\n0/0\n0/0\n", 16}, {"mealy 1 1 1\n0/0\nx", 16},
	} {
		imports(t, c.s, wrong(api.ErrForm, c.at))
	}
}

// P8.3: numbers that are too small or too great.
func TestImportNumbers(t *testing.T) {
	for _, c := range []struct {
		s  string
		e  api.Errno
		at int
	}{
		{"dfa 0 1\n0\n", api.ErrArg, 4}, {"dfa 65 1\n", api.ErrArg, 4}, {"dfa 640 1\n", api.ErrArg, 4}, {"dfa 9999 1\n", api.ErrArg, 4},
		{"mealy 0 1 1\n\n", api.ErrArg, 6}, {"mealy 65 1 1\n", api.ErrArg, 6}, {"mealy 9999 1 1\n", api.ErrArg, 6},
		{"mealy 1 0 1\n", api.ErrOut, 8}, {"mealy 1 65 1\n", api.ErrOut, 8}, {"mealy 1 9999 1\n", api.ErrOut, 8}, {"mealy 64 65 1\n", api.ErrOut, 9},
		{"dfa 1 0\n", api.ErrMany, 6}, {"dfa 1 1025\n", api.ErrMany, 6}, {"dfa 1 9999\n", api.ErrMany, 6}, {"dfa 64 1025\n", api.ErrMany, 7},
		{"mealy 1 1 0\n", api.ErrMany, 10}, {"mealy 1 1 1025\n", api.ErrMany, 10}, {"mealy 64 64 1025\n", api.ErrMany, 12},
		{"dfa 1 1\n2 0\n", api.ErrOut, 8}, {"dfa 1 1\n10 0\n", api.ErrOut, 8}, {"dfa 1 1\n9999 0\n", api.ErrOut, 8}, {"dfa 1 2\n0 0\n2 0\n", api.ErrOut, 12},
		{"dfa 1 1\n0 1\n", api.ErrState, 10}, {"dfa 1 1\n0 9999\n", api.ErrState, 10}, {"dfa 2 1\n0 0 1\n", api.ErrState, 12}, {"dfa 1 2\n0 0\n0 2\n", api.ErrState, 14}, {"dfa 1 2\n0 1\n0 10\n", api.ErrState, 14},
		{"mealy 1 1 1\n1/0\n", api.ErrState, 12}, {"mealy 1 1 1\n9999/0\n", api.ErrState, 12}, {"mealy 2 1 1\n0/0 1/0\n", api.ErrState, 16}, {"mealy 1 1 2\n0/0\n2/0\n", api.ErrState, 16},
		{"mealy 1 1 1\n0/1\n", api.ErrOut, 14}, {"mealy 1 64 1\n0/64\n", api.ErrOut, 15}, {"mealy 1 1 1\n0/9999\n", api.ErrOut, 14}, {"mealy 2 1 1\n0/0 0/1\n", api.ErrOut, 18}, {"mealy 1 3 2\n0/2\n0/3\n", api.ErrOut, 18},
	} {
		imports(t, c.s, wrong(c.e, c.at))
	}
	imports(t, "dfa 1 1024\n"+strings.Repeat("0 1023\n", 1023)+"0 1024\n", wrong(api.ErrState, 11+1023*7+2))
	imports(t, "mealy 1 64 1024\n"+strings.Repeat("0/63\n", 1023)+"0/64\n", wrong(api.ErrOut, 16+1023*5+2))
}

// P8.3: where several faults stand in one text, the first one from the left is
// told, and a number is read whole ahead of the byte behind it.
func TestImportFirst(t *testing.T) {
	for _, c := range []struct {
		s  string
		e  api.Errno
		at int
	}{
		// A number that is none is no number that is too great.
		{"dfa 00", api.ErrForm, 5}, {"dfa 099 1\n", api.ErrForm, 5}, {"dfa 99999 1\n", api.ErrForm, 8}, {"mealy 1 65000 1\n", api.ErrForm, 12}, {"dfa 1 1\n0 01\n", api.ErrForm, 11}, {"dfa 1 1\n20000 0\n", api.ErrForm, 12}, {"mealy 1 1 1\n0/11111\n", api.ErrForm, 18},
		// What is behind a number comes after it, though it is missing.
		{"dfa 0", api.ErrArg, 4}, {"dfa 65", api.ErrArg, 4}, {"dfa 65x", api.ErrArg, 4}, {"dfa 65\n", api.ErrArg, 4}, {"mealy 0", api.ErrArg, 6},
		{"mealy 1 65", api.ErrOut, 8}, {"mealy 1 0/", api.ErrOut, 8}, {"dfa 1 0", api.ErrMany, 6}, {"dfa 1 1025x", api.ErrMany, 6}, {"mealy 1 1 1025", api.ErrMany, 10},
		{"dfa 1 1\n2", api.ErrOut, 8}, {"dfa 1 1\n2x", api.ErrOut, 8}, {"dfa 1 1\n0 1", api.ErrState, 10}, {"dfa 1 1\n0 1x", api.ErrState, 10}, {"mealy 1 1 1\n1", api.ErrState, 12}, {"mealy 1 1 1\n1 1", api.ErrState, 12}, {"mealy 1 1 1\n0/1", api.ErrOut, 14}, {"mealy 1 1 1\n0/1x", api.ErrOut, 14},
		// Of several, the one on the left.
		{"dfb 65 1025\n", api.ErrForm, 2}, {"dfa 65 1025\n2 9\n", api.ErrArg, 4}, {"mealy 65 65 1025\n", api.ErrArg, 6}, {"mealy 1 65 1025\n", api.ErrOut, 8}, {"mealy 64 64 1025\n9/9\n", api.ErrMany, 12},
		{"dfa 1 1025\n2 9\nx", api.ErrMany, 6}, {"dfa 1 1\n2 9\n", api.ErrOut, 8}, {"dfa 1 2\n0 2\n2 2\n", api.ErrState, 10}, {"dfa 1 2\n0 1\n2 2\n", api.ErrOut, 12},
		{"mealy 1 1 1\n1/1\n", api.ErrState, 12}, {"mealy 2 1 1\n0/1 1/0\n", api.ErrOut, 14}, {"mealy 2 1 1\n0/0 1/1\n", api.ErrState, 16}, {"mealy 1 1 2\n0/1\n9/0\n", api.ErrOut, 14},
		{"dfa 1 1\n0x9\n", api.ErrForm, 9}, {"dfa 1 1\n0 9\n\n", api.ErrState, 10}, {"dfa 1 1 0 9\n", api.ErrForm, 7}, {"dfa 1 1\n0 0\n9 9\n", api.ErrForm, 12}, {"dfa 1 2\n0 0 \n2 0\n", api.ErrForm, 11},
		{"dfa 1 01\n2", api.ErrForm, 7}, {"mealy 1 1 1\n00/1\n", api.ErrForm, 13},
	} {
		imports(t, c.s, wrong(c.e, c.at))
	}
}

// P8.3: ErrLong is ahead of all; the limit itself is allowed.
func TestImportLong(t *testing.T) {
	const right = "dfa 1 1\n0 0\n"
	for _, c := range []struct {
		name  string
		begin string
		e     api.Errno
		at    int
	}{
		{"a text with more behind it", right, api.ErrForm, len(right)},
		{"no text at all", "x", api.ErrForm, 0},
		{"K too great", "dfa 65 1\n", api.ErrArg, 4},
		{"N too great", "dfa 1 1025\n", api.ErrMany, 6},
		{"a number too long", "dfa 1 1\n0 12345", api.ErrForm, 14},
	} {
		s := c.begin + strings.Repeat("\n", api.MaxText+1-len(c.begin))
		imports(t, s[:api.MaxText], wrong(c.e, c.at))
		imports(t, s, wrong(api.ErrLong, 0))
		imports(t, s+s, wrong(api.ErrLong, 0))
	}
	// What stands in the spare room is not counted.
	room := append([]byte(right), make([]byte, api.MaxText)...)
	if m, e, at := text.Import(room[:len(right)]); m.N != 1 || e != api.OK || at != len(right) {
		t.Errorf("spare room: %v, %d at %d", m, e, at)
	}
}

// reads holds Import against the plain reading of the document, and what it
// tells against Export and Check.
func reads(t *testing.T, s string) {
	t.Helper()
	got := importOf(s)
	if want := plainImport(s); !equalImported(got, want) {
		t.Fatalf("%.200q: %v, not %v", s, got, want)
	}
	if got.e != api.OK {
		return
	}
	if at, e := machine.Check(got.m); e != api.OK {
		t.Fatalf("%.200q: %v, of which Check tells %d at %d", s, got.m, e, at)
	}
	if b, e := text.Export(got.m); string(b) != s || e != api.OK {
		t.Fatalf("%.200q: is exported as %.200q, %d", s, b, e)
	}
}

// eachText goes through all texts of at most so many bytes.
func eachText(bytes string, most int, do func(s string)) {
	var longer func(s string)
	longer = func(s string) {
		do(s)
		if len(s) == most {
			return
		}
		for i := range len(bytes) {
			longer(s + bytes[i:i+1])
		}
	}
	longer("")
}

// P8.3: all that may stand behind some beginnings.
func TestImportAsPlainlyRead(t *testing.T) {
	for _, begin := range []string{"", "dfa ", "mealy ", "dfa 1 1\n", "dfa 1 2\n", "dfa 2 1\n", "dfa 1 2\n0 1\n", "mealy 1 1 1\n", "mealy 1 2 2\n", "mealy 2 1 1\n", "mealy 1 2 2\n0/0\n"} {
		bytes, most := "012 \n/", 6
		if begin == "" {
			bytes, most = "dfamely 1\n", 5
		}
		eachText(bytes, most, func(s string) { reads(t, begin+s) })
	}
	for _, begin := range []string{"dfa ", "dfa 1 ", "mealy ", "mealy 1 ", "mealy 1 1 ", "dfa 1 1\n", "dfa 1 1\n0 ", "mealy 1 64 1024\n", "mealy 1 64 1024\n1023/"} {
		eachText("0123456789", 4, func(s string) {
			reads(t, begin+s)
			reads(t, begin+s+" ")
		})
	}
}

// P8.3: each byte of a text is another one, is left out, stands there twice.
func TestImportOneByteWrong(t *testing.T) {
	for _, s := range []string{acceptorText, transducerText, "dfa 1 1\n1 0\n", "mealy 1 1 1\n0/0\n", "dfa 12 2\n0 0 1 0 1 0 1 0 1 0 1 0 1\n1 0 0 0 0 0 0 1 1 1 1 1 1\n"} {
		reads(t, s)
		for at := range len(s) {
			reads(t, s[:at]+s[at+1:])
			for c := range 256 {
				reads(t, s[:at]+string([]byte{byte(c)})+s[at+1:])
				reads(t, s[:at]+string([]byte{byte(c)})+s[at:])
			}
		}
	}
}

// mangled is s with some pieces left out, doubled, or put elsewhere, and some
// bytes drawn anew.
func (d *numbers) mangled(s string) string {
	const usual = "0123456789 \n/dfamely-x\x00"
	for range 1 + d.below(3) {
		from := d.below(len(s) + 1)
		to := from + d.below(min(9, len(s)-from+1))
		at := d.below(len(s) + 1)
		switch d.below(5) {
		case 0:
			s = s[:from] + s[to:]
		case 1:
			s = s[:to] + s[from:]
		case 2:
			s = s[:at] + s[from:to] + s[at:]
		case 3:
			c := d.below(len(usual))
			s = s[:at] + usual[c:c+1] + s[min(at+1, len(s)):]
		case 4:
			c := d.below(10)
			s = s[:at] + usual[c:c+1] + s[at:]
		}
	}
	return s
}

// P8.3.
func TestImportMangled(t *testing.T) {
	d := numbers(23)
	told := map[api.Errno]int{}
	for _, m := range drawn() {
		s := plainText(m)
		reads(t, s)
		for range 60000/len(s) + 20 {
			x := d.mangled(s)
			reads(t, x)
			told[importOf(x).e]++
		}
	}
	for _, e := range []api.Errno{api.OK, api.ErrForm, api.ErrArg, api.ErrOut, api.ErrMany, api.ErrState} {
		if told[e] < 5 {
			t.Errorf("error %d is told %d times: that tells little", e, told[e])
		}
	}
}
