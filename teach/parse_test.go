package teach_test

import (
	"slices"
	"strings"
	"testing"

	"tutor/api"
	"tutor/teach"
	"tutor/text"
)

// parses holds Parse against what is wanted.
func parses(t *testing.T, s string, want parsed) {
	t.Helper()
	if got := parse(s); !equalParsed(got, want) {
		t.Errorf("%.60q (%d bytes): %.200v, %d at %d, not %.200v, %d at %d", s, len(s), got.l, got.e, got.at, want.l, want.e, want.at)
	}
}

// P10.3.
func TestParse(t *testing.T) {
	for _, c := range []struct {
		s string
		l []api.Answer
	}{
		{"", nil},
		{"o 0 1\ny\nn 2\n", []api.Answer{out(0, 1), yes(), no(2)}},
		{"o\n", []api.Answer{out()}},
		{"o 0\n", []api.Answer{out(0)}},
		{"y\n", []api.Answer{yes()}},
		{"n\n", []api.Answer{no()}},
		{"n 0\n", []api.Answer{no(0)}},
		{"o 9 10 99 100 999 1000 9999\n", []api.Answer{out(9, 10, 99, 100, 999, 1000, 9999)}},
		{"n 9999 0 7\n", []api.Answer{no(9999, 0, 7)}},
		{"y\ny\ny\n", []api.Answer{yes(), yes(), yes()}},
		{"n 1\no 1\nn\no\ny\no 1 2 3\n", []api.Answer{no(1), out(1), no(), out(), yes(), out(1, 2, 3)}},
	} {
		parses(t, c.s, parsed{c.l, api.OK, len(c.s)})
	}
	if l, e, at := teach.Parse(nil); len(l) != 0 || e != api.OK || at != 0 {
		t.Errorf("nil: %v, %d at %d", l, e, at)
	}
}

// P10.3: bytes that no line has there, at each place of a line; and texts that
// end too early at each place.
func TestParseForm(t *testing.T) {
	for _, c := range []struct {
		s  string
		at int
	}{
		// How a line begins.
		{"x", 0}, {"O\n", 0}, {"Y\n", 0}, {"N\n", 0}, {"0\n", 0}, {" \n", 0}, {"\n", 0}, {" o\n", 0}, {"\ty\n", 0}, {"\x00", 0}, {"\xff", 0}, {"\ufeffy\n", 0}, {"p\n", 0}, {"m\n", 0}, {"z\n", 0},
		// Behind the letter.
		{"o", 1}, {"y", 1}, {"n", 1}, {"o0\n", 1}, {"n0\n", 1}, {"ox", 1}, {"nx", 1}, {"yx", 1}, {"oo\n", 1}, {"yes\n", 1}, {"no\n", 1}, {"o\t0\n", 1}, {"o\r\n", 1}, {"y\r\n", 1}, {"n\x00\n", 1}, {"o,1\n", 1},
		// Numbers behind y.
		{"y 1\n", 1}, {"y 0\n", 1}, {"y ", 1}, {"y \n", 1}, {"y1\n", 1}, {"y 01\n", 1}, {"y x", 1},
		// Where a number stands.
		{"o ", 2}, {"n ", 2}, {"o \n", 2}, {"n \n", 2}, {"o  1\n", 2}, {"o x\n", 2}, {"o -1\n", 2}, {"n +1\n", 2}, {"o /\n", 2}, {"o :\n", 2}, {"o y\n", 2}, {"o \x00", 2},
		{"o 01", 3}, {"o 01\n", 3}, {"o 00\n", 3}, {"n 09\n", 3}, {"o 000000\n", 3}, {"o 10000\n", 6}, {"n 12345\n", 6}, {"n 99999999999999999999\n", 6}, {"o 12345", 6},
		{"o 1 ", 4}, {"o 1 \n", 4}, {"n 1  2\n", 4}, {"n 1 x\n", 4}, {"o 1 02\n", 5}, {"o 1 20000\n", 8}, {"n 1000 ", 7}, {"n 1000 00", 8},
		// Behind a number.
		{"o 1", 3}, {"n 1", 3}, {"o 0", 3}, {"o 1234", 6}, {"o 1x\n", 3}, {"o 1\t2\n", 3}, {"n 1,2\n", 3}, {"n 1/2\n", 3}, {"o 1\r\n", 3}, {"o 1-\n", 3}, {"o 0x\n", 3}, {"o 1 2", 5}, {"o 1 2y\n", 5},
		// In lines behind others.
		{"y\nx", 2}, {"y\n\n", 2}, {"y\n ", 2}, {"y\no", 3}, {"y\ny", 3}, {"y\nn 1", 5}, {"o 1\nn ", 6}, {"o 1\nn 2\ny 3\n", 9}, {"o 1\ny\nn 02\n", 9}, {"y\no 10000\n", 8},
		{"y\ny\n\ny\n", 4}, {"o 1\n\x00", 4},
	} {
		parses(t, c.s, wrong(api.ErrForm, c.at))
	}
}

// P10.3: where numbers are wrong, it is what text.Number tells.
func TestParseAsNumberTells(t *testing.T) {
	for _, digits := range []string{"", "0", "7", "10", "9999", "01", "00", "0123", "10000", "00000", "123456789", "x", "-1", " ", "\n", "1x", "0x1"} {
		for _, ahead := range []string{"o ", "n ", "o 5 ", "n 1234 0 ", "y\no "} {
			b := []byte(ahead + digits + "\n")
			_, next, e := text.Number(b, len(ahead))
			if e == api.OK && b[next] != '\n' {
				e = api.ErrForm
			}
			_, gotE, at := teach.Parse(b)
			if e == api.OK {
				next = len(b)
			}
			if gotE != e || at != next {
				t.Errorf("%q: %d at %d, not %d at %d", b, gotE, at, e, next)
			}
		}
	}
}

// P10.3: where several faults stand, the first one from the left.
func TestParseFirst(t *testing.T) {
	for _, c := range []struct {
		s  string
		at int
	}{
		{"o 01 x\nz", 3}, {"o x 01\n", 2}, {"y 12345\nx", 1}, {"o 1\nx\no 01\n", 4}, {"x\no 01", 0}, {"n 12345 01\n", 6}, {"n 01 12345\n", 3}, {"o  01\n", 2}, {"y  \ny", 1}, {"o 1\rx", 3}, {"o 099999\n", 3},
	} {
		parses(t, c.s, wrong(api.ErrForm, c.at))
	}
}

// P10.3: MaxText bytes may be, in MaxWords lines too; one more is too long,
// and that is ahead of all other faults.
func TestParseLongText(t *testing.T) {
	const perLine = api.MaxText / api.MaxWords
	line := "o" + strings.Repeat(" 1", perLine/2-1) + "\n"
	s := strings.Repeat(line, api.MaxWords)
	if len(s) != api.MaxText {
		t.Fatalf("%d bytes", len(s))
	}
	l, e, at := teach.Parse([]byte(s))
	if len(l) != api.MaxWords || e != api.OK || at != api.MaxText {
		t.Errorf("MaxText bytes: %d answers, %d at %d", len(l), e, at)
	}
	want := out(slices.Repeat([]int{1}, perLine/2-1)...)
	for i, a := range l {
		if !equalAnswers(a, want) {
			t.Fatalf("MaxText bytes: answer %d is %v", i, a)
		}
	}
	for _, more := range []string{"y", "\n", " ", "x", "y\n", s} {
		parses(t, s+more, wrong(api.ErrLong, 0))
	}
	// Longer numbers, so that there are fewer lines.
	line = "n" + strings.Repeat(" 1234", api.MaxWord) + "\n"
	s = strings.Repeat(line, api.MaxText/len(line))
	if l, e, at := teach.Parse([]byte(s)); len(l) != api.MaxText/len(line) || e != api.OK || at != len(s) || len(l[0].Word) != api.MaxWord {
		t.Errorf("long lines: %d answers, %d at %d", len(l), e, at)
	}
	for _, c := range []struct {
		begin string
		e     api.Errno
		at    int
	}{{"x", api.ErrForm, 0}, {"y\n", api.ErrForm, 2}, {"o 01", api.ErrForm, 3}, {strings.Repeat("y\n", api.MaxWords), api.ErrMany, 2 * api.MaxWords}, {"o" + strings.Repeat(" 0", api.MaxWord+1), api.ErrLong, 1 + 2*api.MaxWord}} {
		s := c.begin + strings.Repeat("x", api.MaxText+1-len(c.begin))
		parses(t, s[:api.MaxText], wrong(c.e, c.at))
		parses(t, s, wrong(api.ErrLong, 0))
	}
	// What stands in the spare room is not counted.
	room := append([]byte("y\n"), make([]byte, api.MaxText)...)
	if l, e, at := teach.Parse(room[:2]); len(l) != 1 || e != api.OK || at != 2 {
		t.Errorf("spare room: %v, %d at %d", l, e, at)
	}
}

// P10.3: MaxWords lines may be; the next one is one too many as soon as its
// first byte is there, whatever stands there.
func TestParseManyLines(t *testing.T) {
	for _, line := range []string{"y\n", "o\n", "n 1\n", "o 0 1234\n"} {
		s := strings.Repeat(line, api.MaxWords)
		l, e, at := teach.Parse([]byte(s))
		if len(l) != api.MaxWords || e != api.OK || at != len(s) {
			t.Errorf("%q: %d answers, %d at %d", line, len(l), e, at)
		}
		for _, more := range []string{"y\n", "o 1\n", "n\n", "y", "o ", "n 1", "y\ny\n", "x", "\n", " ", "o 01\n", "\x00", "o" + strings.Repeat(" 0", api.MaxWord+1) + "\n"} {
			parses(t, s+more, wrong(api.ErrMany, len(s)))
		}
		// One line less, and the same behind it.
		shorter := s[len(line):]
		l, e, at = teach.Parse([]byte(shorter))
		if len(l) != api.MaxWords-1 || e != api.OK || at != len(shorter) {
			t.Errorf("%q, one less: %d answers, %d at %d", line, len(l), e, at)
		}
		parses(t, shorter+"x", wrong(api.ErrForm, len(shorter)))
		parses(t, shorter+"y", wrong(api.ErrForm, len(shorter)+1))
		parses(t, shorter+"y 1\nx", wrong(api.ErrForm, len(shorter)+1))
		parses(t, shorter+"y\nx", wrong(api.ErrMany, len(shorter)+2))
		// A fault ahead of it is the first one.
		parses(t, "x"+s+"y\n", wrong(api.ErrForm, 0))
		parses(t, "y\ny \n"+s+"y\n", wrong(api.ErrForm, 3))
		parses(t, "o"+strings.Repeat(" 0", api.MaxWord+1)+"\n"+s, wrong(api.ErrLong, 1+2*api.MaxWord))
	}
}

// P10.3: MaxWord numbers may be in a line; the next one is one too many as
// soon as the blank ahead of it is there, whatever stands behind it.
func TestParseLongLine(t *testing.T) {
	for _, ahead := range []string{"", "y\n", "o 1\nn 2\n", "n" + strings.Repeat(" 0", api.MaxWord) + "\n"} {
		for _, letter := range []string{"o", "n"} {
			for _, number := range []string{" 0", " 17", " 9999"} {
				s := ahead + letter + strings.Repeat(number, api.MaxWord)
				got := parse(s + "\n")
				if got.e != api.OK || got.at != len(s)+1 {
					t.Fatalf("%.10q, %q, %q: %d at %d", ahead, letter, number, got.e, got.at)
				}
				last := got.l[len(got.l)-1]
				if len(last.Out)+len(last.Word) != api.MaxWord {
					t.Errorf("%.10q, %q, %q: %d and %d numbers", ahead, letter, number, len(last.Out), len(last.Word))
				}
				for _, more := range []string{" 0\n", " 1234\n", " 0 0\n", " 0", " ", " \n", " x", " 01\n", " 12345\n", "  0\n", " y\n", " 0\nx"} {
					parses(t, s+more, wrong(api.ErrLong, len(s)))
				}
				for _, more := range []string{"", "x", "\t", "\r\n", "y\n", "/0\n"} {
					parses(t, s+more, wrong(api.ErrForm, len(s)))
				}
				// A number less, and the same behind it.
				shorter := s[:len(s)-len(number)]
				parses(t, shorter, wrong(api.ErrForm, len(shorter)))
				parses(t, shorter+" x", wrong(api.ErrForm, len(shorter)+1))
				parses(t, shorter+" 01 0\n", wrong(api.ErrForm, len(shorter)+2))
				parses(t, shorter+number+" 01 0\n", wrong(api.ErrLong, len(s)))
			}
		}
	}
	// Numbers behind y are wrong from the first one on.
	parses(t, "y"+strings.Repeat(" 0", api.MaxWord+1)+"\n", wrong(api.ErrForm, 1))
	// A fault in the line ahead of the last number is the first one.
	parses(t, "o 01"+strings.Repeat(" 0", api.MaxWord+1)+"\n", wrong(api.ErrForm, 3))
}

// reads holds Parse against the plain reading of the document, and what it
// tells against Show.
func reads(t *testing.T, s string) parsed {
	t.Helper()
	got := parse(s)
	if want := plainParse(s); !equalParsed(got, want) {
		t.Fatalf("%.200q: %v, %d at %d, not %v, %d at %d", s, got.l, got.e, got.at, want.l, want.e, want.at)
	}
	if b := teach.Show(got.l); got.e == api.OK && string(b) != s {
		t.Fatalf("%.200q: is shown as %.200q", s, b)
	}
	return got
}

// eachText goes through all texts of at most so many bytes.
func eachText(bytes string, most int, do func(s string)) {
	var longer func(s string)
	longer = func(s string) {
		do(s)
		if len(s) == most {
			return
		}
		for i := range len(bytes) {
			longer(s + bytes[i:i+1])
		}
	}
	longer("")
}

// P10.3, of all short texts behind some beginnings.
func TestParseAsPlainlyRead(t *testing.T) {
	for _, begin := range []string{"", "o", "y", "n", "o 1", "n 0", "y\n", "o 123", "o 12 ", "o 0 1\nn"} {
		eachText("oyn01 \nx", 5, func(s string) { reads(t, begin+s) })
	}
	for _, begin := range []string{"o ", "n ", "o 0 ", "n 9999 "} {
		eachText("0123456789", 4, func(s string) {
			reads(t, begin+s+"\n")
			reads(t, begin+s+"0\n")
		})
	}
}

// P10.3: each byte of a text is another one, is left out, or has another one
// ahead; and the text is cut there.
func TestParseOneByteWrong(t *testing.T) {
	for _, s := range []string{"o 0 1\ny\nn 2\n", "o\nn\ny\n", "n 1234 0 56\no 789\n", "y\no 63 0 10 9999\ny\n"} {
		for at := range len(s) {
			reads(t, s[:at])
			reads(t, s[:at]+s[at+1:])
			for c := range 256 {
				reads(t, s[:at]+string([]byte{byte(c)})+s[at+1:])
				reads(t, s[:at]+string([]byte{byte(c)})+s[at:])
			}
		}
	}
}

// mangled is s with some pieces left out, doubled, or put elsewhere, and some
// bytes drawn anew.
func (d *numbers) mangled(s string) string {
	const usual = "0123456789 \noyn-x\x00"
	for range 1 + d.below(3) {
		from := d.below(len(s) + 1)
		to := from + d.below(min(9, len(s)-from+1))
		at := d.below(len(s) + 1)
		c := d.below(len(usual))
		switch d.below(4) {
		case 0:
			s = s[:from] + s[to:]
		case 1:
			s = s[:at] + s[from:to] + s[at:]
		case 2:
			s = s[:at] + usual[c:c+1] + s[min(at+1, len(s)):]
		case 3:
			s = s[:at] + usual[c:c+1] + s[at:]
		}
	}
	return s
}

// answers draws some, with numbers that a text can have.
func (d *numbers) answers(n int) []api.Answer {
	var l []api.Answer
	for range n {
		numbers := d.list(d.below(6), []int{2, 64, 10000}[d.below(3)])
		l = append(l, []api.Answer{out(numbers...), yes(), no(numbers...)}[d.below(3)])
	}
	return l
}

// P10.3.
func TestParseMangled(t *testing.T) {
	d := numbers(23)
	right, form := 0, 0
	for range 3000 {
		s := plainShow(d.answers(1 + d.below(8)))
		reads(t, s)
		for range 20 {
			switch reads(t, d.mangled(s)).e {
			case api.OK:
				right++
			case api.ErrForm:
				form++
			}
		}
	}
	if right < 1000 || form < 1000 {
		t.Errorf("%d are right, %d wrong: that tells little", right, form)
	}
}

// P10.3, near the end of what may be in a line and in a text.
func TestParseMangledLong(t *testing.T) {
	d := numbers(29)
	told := map[api.Errno]int{}
	for range 200 {
		line := "o" + strings.Repeat(" 7", api.MaxWord-1+d.below(3))
		s := line[:len(line)-8] + d.mangled(line[len(line)-8:]+"\ny\n")
		told[reads(t, s).e]++
	}
	for range 30 {
		lines := strings.Repeat("y\n", api.MaxWords+d.below(2))
		s := lines[:len(lines)-8] + d.mangled(lines[len(lines)-8:])
		told[reads(t, s).e]++
	}
	for _, e := range []api.Errno{api.OK, api.ErrForm, api.ErrLong, api.ErrMany} {
		if told[e] < 5 {
			t.Errorf("error %d is told %d times: that tells little", e, told[e])
		}
	}
}
