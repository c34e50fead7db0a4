package text_test

import (
	"slices"
	"testing"

	"tutor/api"
	"tutor/differ"
	"tutor/moore"
	"tutor/text"
	"tutor/trim"
)

func exported(t *testing.T, m api.Machine) string {
	t.Helper()
	b, e := text.Export(m)
	if e != api.OK {
		t.Fatalf("%v: %d", m, e)
	}
	return string(b)
}

// P8.4: what is exported is imported as it was, and exported as the same text.
func TestThereAndBack(t *testing.T) {
	for _, m := range slices.Concat(small(), drawn(), greatest()) {
		s := exported(t, m)
		got := importOf(s)
		if !equalImported(got, imported{m, api.OK, len(s)}) {
			t.Fatalf("%.200q: %d at %d", s, got.e, got.at)
		}
		if again := exported(t, got.m); again != s {
			t.Fatalf("%.200q: then %.200q", s, again)
		}
	}
}

// P8.4: two machines have one text just if they are the same.
func TestOneTextEach(t *testing.T) {
	seen := map[string]api.Machine{}
	machines := append(small(), mealy(1, 4, []int{0}, []int{0}), mealy(1, 64, []int{0}, []int{0}), dfa(11, make([]int, 11), []int{0}))
	for _, m := range machines {
		s := exported(t, m)
		if other, ok := seen[s]; ok {
			t.Fatalf("%q is the text of %v and of %v", s, other, m)
		}
		seen[s] = m
	}
	for _, m := range machines {
		if !equalMachines(seen[exported(t, m)], m) {
			t.Fatalf("%v has another text now", m)
		}
	}
}

// P8.4: the texts of the least machines are the same just if no word tells two
// machines apart.
func TestTextOfTheLeast(t *testing.T) {
	alike, other := 0, 0
	for _, machines := range [][]api.Machine{all(api.Dfa, 1, 2, 3), all(api.Dfa, 2, 2, 2), all(api.Mealy, 1, 2, 3), all(api.Mealy, 2, 2, 2)} {
		var texts []string
		for _, m := range machines {
			least, _ := moore.Minimise(m)
			canon, _ := trim.Canon(least)
			texts = append(texts, exported(t, canon))
		}
		for i, a := range machines {
			for j, b := range machines {
				same, e := differ.Equal(a, b)
				if e != api.OK || same != (texts[i] == texts[j]) {
					t.Fatalf("%v and %v: %q and %q, but Equal tells %v, %d", a, b, texts[i], texts[j], same, e)
				}
				if same {
					alike++
				} else {
					other++
				}
			}
		}
	}
	if alike < 1000 || other < 1000 {
		t.Errorf("%d are alike, %d not: that tells little", alike, other)
	}
}

// P8.5.
func TestCutOrLonger(t *testing.T) {
	for _, m := range append(small(), drawn()...) {
		s := exported(t, m)
		if len(s) > 2000 {
			continue
		}
		for n := range len(s) {
			if got := importOf(s[:n]); !equalImported(got, wrong(api.ErrForm, n)) {
				t.Fatalf("%q, cut at %d: %v", s, n, got)
			}
		}
		for _, more := range []string{"\n", " ", "0", "1", "/", "d", "m", "x", "\x00", "\xff", s} {
			if got := importOf(s + more); !equalImported(got, wrong(api.ErrForm, len(s))) {
				t.Fatalf("%q, and %q: %v", s, more, got)
			}
		}
	}
}

// P8.5, of the greatest texts: cut near both ends and at some places between.
func TestGreatestCutOrLonger(t *testing.T) {
	for _, m := range greatest() {
		s := exported(t, m)
		for n := 0; n < len(s); n++ {
			if n > 50 && n < len(s)-50 && n%9973 != 0 {
				continue
			}
			if got := importOf(s[:n]); !equalImported(got, wrong(api.ErrForm, n)) {
				t.Fatalf("kind %d, cut at %d: %d at %d", m.Kind, n, got.e, got.at)
			}
		}
		for _, more := range []string{"\n", " ", "0", "/", "d", "\x00"} {
			if got := importOf(s + more); !equalImported(got, wrong(api.ErrForm, len(s))) {
				t.Fatalf("kind %d, and %q: %d at %d", m.Kind, more, got.e, got.at)
			}
		}
	}
}
