package zilog

import (
	"math"
	"slices"
	"strings"
	"testing"

	"pidgin/api"
)

// The words as the chapter lists them.
const (
	ofIntel = "A B C D E H L M SP PSW"
	ofZilog = "A B C D E H L AF BC DE HL SP NZ Z NC PO PE P M"
	ofEight = "AL CL DL BL AH CH DH BH AX CX DX BX SP BP SI DI"
	ofEach  = "OR XOR AND NOT MOD SHL SHR"
)

// lists: what each dialect keeps.
func lists() [3][]string {
	return [3][]string{
		strings.Fields(ofIntel + " " + ofEach),
		strings.Fields(ofZilog + " " + ofEach),
		strings.Fields(ofEight + " " + ofEach),
	}
}

// letters: what a name may have in great letters.
const letters = "ABCDEFGHIJKLMNOPQRSTUVWXYZ0123456789?@_"

// names: all of one, two and three bytes, and all words, with up to 16 _ behind, if they are no longer than a name is.
func names() []string {
	var plain []string
	for _, x := range letters[:26] + "?@_" {
		plain = append(plain, string(x))
		for _, y := range letters {
			plain = append(plain, string(x)+string(y))
		}
	}
	for _, l := range lists() {
		plain = append(plain, l...)
	}
	slices.Sort(plain)
	all := map[string]int{}
	for _, s := range slices.Compact(plain) {
		for ; len(s) <= api.MaxName; s += "_" {
			all[s]++
		}
	}
	var l []string
	for s := range all {
		l = append(l, s)
	}
	slices.Sort(l)
	return l
}

// renames: the name is this one in a Zilog source, or can't be.
func renames(t *testing.T, s, want string, k api.Kind) {
	t.Helper()
	if got, kind := Rename(s); got != want || kind != k {
		t.Errorf("Rename of %q: %q, kind %d, not %q, kind %d", s, got, kind, want, k)
	}
}

// P702: each word in each dialect, and whatever is near one.
func TestReserved(t *testing.T) {
	all := lists()
	ask := func(s string) {
		t.Helper()
		for d, l := range all {
			if want := slices.Contains(l, s); Reserved(d, s) != want {
				t.Errorf("Reserved of %d, %q: %v", d, s, !want)
			}
		}
	}
	for _, l := range all {
		for _, s := range l {
			ask(s)
			ask(s[1:])
			ask(s[:len(s)-1])
			ask(strings.ToLower(s))
			for _, x := range letters + "abz ,()\t\x00'" {
				ask(s + string(x))
				ask(string(x) + s)
			}
			for _, more := range l {
				ask(s + more)
				ask(s + " " + more)
			}
			ask("(" + s + ")")
		}
	}
	for _, s := range names() {
		ask(s)
	}
	for _, s := range []string{"", " ", "_", "NEG", "EQU", "SET", "MOV", "LD", "IX", "IY", "R", "I", "CS", "IP", "F", "PC", "XY", "\xff", strings.Repeat("A", 1000)} {
		ask(s)
	}
}

// P702: a dialect that is none keeps nothing, the words of all neither.
func TestReservedNone(t *testing.T) {
	for _, d := range []int{-1, -2, 3, 4, 255, 256, 257, 1 << 16, 1 << 32, 1<<32 + 1, math.MinInt, math.MinInt + 1, math.MaxInt} {
		for _, l := range lists() {
			for _, s := range append(l, "", "X") {
				if Reserved(d, s) {
					t.Errorf("Reserved of %d, %q", d, s)
				}
			}
		}
	}
}

// The chapter's examples of names.
func TestRenameExamples(t *testing.T) {
	renames(t, "NZ", "NZ_", api.OK)
	renames(t, "NZ_", "NZ__", api.OK)
	renames(t, "M1", "M1", api.OK)
}

// P703: what Zilog keeps alone gets one _ more, however many it has, up to the limit.
func TestRenameZilog(t *testing.T) {
	for _, s := range strings.Fields("AF BC DE HL NZ Z NC PO PE P") {
		for ; len(s) < api.MaxName; s += "_" {
			renames(t, s, s+"_", api.OK)
		}
		for ; len(s) < 3*api.MaxName; s += "_" {
			renames(t, s, "", api.TooLarge)
		}
	}
}

// P703: what Intel keeps, too, or no dialect, or another one, stays as it is.
func TestRenameSame(t *testing.T) {
	same := strings.Fields("A B C D E H L M SP PSW OR XOR AND NOT MOD SHL SHR AL AX BX SI X LOOP N NN ZZ PP NZ1 NZA XNZ _NZ @NZ ?Z NZ_1 NZ_A NZ_@ A_F A_ M_ SP_ PSW_ OR_ _ __ ? @ EQU SET nz Nz nZ z af p nz_")
	for _, s := range same {
		for ; len(s) <= api.MaxName+4; s += "_" {
			renames(t, s, s, api.OK)
		}
	}
	for _, s := range []string{"", " NZ", "NZ ", "NZ _", "NZ\x00_", "(HL)", "NZ\xff", "\xff\xfe", "é_", "NZ\uff3f"} {
		renames(t, s, s, api.OK)
	}
	renames(t, "ABCDEFGHIJKLMNOP", "ABCDEFGHIJKLMNOP", api.OK)
	renames(t, "ABCDEFGHIJKLMNO", "ABCDEFGHIJKLMNO", api.OK)
	renames(t, strings.Repeat("X", 100), strings.Repeat("X", 100), api.OK)
}

// P703: names just at the limit, and one below it.
func TestRenameLimit(t *testing.T) {
	renames(t, "NZ_____________", "NZ______________", api.OK)
	renames(t, "NZ______________", "", api.TooLarge)
	renames(t, "Z______________", "Z_______________", api.OK)
	renames(t, "Z_______________", "", api.TooLarge)
	renames(t, "C_______________", "C_______________", api.OK)
	renames(t, "________________", "________________", api.OK)
}

// P704: no two names come to be the same, and what Intel does not keep Zilog does not keep, once it is renamed.
func TestRenameLaws(t *testing.T) {
	from := map[string]string{}
	for _, s := range names() {
		to, k := Rename(s)
		if k != api.OK {
			if to != "" || k != api.TooLarge || len(s) != api.MaxName {
				t.Errorf("Rename of %q: %q, kind %d", s, to, k)
			}
			continue
		}
		if other, ok := from[to]; ok {
			t.Errorf("%q and %q are both %q", other, s, to)
		}
		from[to] = s
		if len(to) > api.MaxName || !Reserved(api.Intel, s) && Reserved(api.Zilog, to) {
			t.Errorf("%q is %q", s, to)
		}
	}
}
