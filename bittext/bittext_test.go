package bittext_test

import (
	"strings"
	"testing"

	"shawm/api"
	"shawm/bits"
	"shawm/bittext"
)

func is[T comparable](t *testing.T, name string, got, want T) {
	t.Helper()
	if got != want {
		t.Errorf("%s: %v, want %v", name, got, want)
	}
}

func TestNumbers(t *testing.T) {
	is(t, "Number", bittext.Number(5, 4), "0101")
	is(t, "Number below 0", bittext.Number(-2, 4), "1110")
	is(t, "Number without bits", bittext.Number(0, 0), "")
	is(t, "Gamma", bittext.Gamma(5), "00101")
	is(t, "Gamma of 1", bittext.Gamma(1), "1")
}

func TestTexts(t *testing.T) {
	w := bits.New()
	is(t, "Of no bits", bittext.Of(w), "")
	w.Put(5, 3)
	w.Gamma(9)
	is(t, "Of", bittext.Of(w), "101"+"0001001")
	r := bittext.Open("1010011")
	v, e := r.Get(7)
	is(t, "Open", v, 0b1010011)
	is(t, "its error", e, api.OK)
	is(t, "what is left", r.Left(), 0)
	is(t, "Open of nothing", bittext.Open("").Left(), 0)
	is(t, "Open of too much", bittext.Open(strings.Repeat("0", api.MaxBits+1)), nil)
}

func TestFilled(t *testing.T) {
	w := bittext.Filled(3)
	is(t, "what has no room", w.Put(0, 4), api.ErrFull)
	is(t, "what has room", w.Put(0, 3), api.OK)
	is(t, "the length", w.Len(), api.MaxBits)
}
