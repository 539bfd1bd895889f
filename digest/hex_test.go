package digest_test

import (
	"encoding/hex"
	"strings"
	"testing"

	"hearsay/api"
	"hearsay/digest"
)

// P1.4.

func TestHex(t *testing.T) {
	var d api.Digest
	for start := 0; start < 256; start += len(d) {
		for i := range d {
			d[i] = byte(start + i)
		}
		if got, want := digest.Hex(d), hex.EncodeToString(d[:]); got != want {
			t.Errorf("Hex is %s, want %s", got, want)
		}
	}
	if got := digest.Hex(api.Digest{}); got != strings.Repeat("0", 64) {
		t.Errorf("Hex of zeros is %s", got)
	}
	if got := digest.Hex(api.Digest{0: 0x1f, 31: 0xe0}); got != "1f"+strings.Repeat("0", 60)+"e0" {
		t.Errorf("Hex is %s", got)
	}
}

// P1.5.

func TestFromHexReadsWhatHexTells(t *testing.T) {
	for i := range 300 {
		d := digest.Sum(someBytes(i))
		if got, e := digest.FromHex(digest.Hex(d)); got != d || e != api.OK {
			t.Errorf("FromHex(Hex(%x)) is %x, %d", d, got, e)
		}
	}
	if d, e := digest.FromHex(strings.Repeat("0", 64)); d != (api.Digest{}) || e != api.OK {
		t.Errorf("FromHex of 64 zeros is %x, %d", d, e)
	}
}

// At every place, just the bytes 0 to 9 and a to f are digits, and they say what Hex tells.
func TestFromHexTakesTheDigitsAlone(t *testing.T) {
	for at := range 64 {
		for c := range 256 {
			text := []byte(hexOfABC)
			text[at] = byte(c)
			d, e := digest.FromHex(string(text))
			if strings.IndexByte("0123456789abcdef", byte(c)) >= 0 {
				if e != api.OK || digest.Hex(d) != string(text) {
					t.Errorf("FromHex(%q) is %x, %d", text, d, e)
				}
			} else if e != api.ErrHex || d != (api.Digest{}) {
				t.Errorf("FromHex(%q) is %x, %d, want ErrHex and zeros", text, d, e)
			}
		}
	}
}

func TestFromHexRefusesOtherLengths(t *testing.T) {
	wrong := []string{"", "0", "0x" + hexOfABC, hexOfABC + "\n", " " + hexOfABC, hexOfABC + " ", hexOfABC[:62] + "é", "E" + hexOfNothing[1:], strings.ToUpper(hexOfABC), hexOfABC + hexOfABC}
	for n := range 130 {
		if n != 64 {
			wrong = append(wrong, strings.Repeat("0", n), strings.Repeat("a", n))
		}
	}
	for _, s := range wrong {
		if d, e := digest.FromHex(s); e != api.ErrHex || d != (api.Digest{}) {
			t.Errorf("FromHex(%q) is %x, %d, want ErrHex and zeros", s, d, e)
		}
	}
}
