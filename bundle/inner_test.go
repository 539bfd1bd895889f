package bundle

import (
	"errors"
	"strings"
	"testing"

	"hearsay/api"
)

// What no call shows: an error value tells the part that can't be read, and wraps its reason; parts are laid any number at a time.

func TestReasons(t *testing.T) {
	const goal = "\x00\x00\x00\x05\x00\x02ok\x00"
	const noSteps = "\x00\x00\x00\x08\x00\x00\x00\x00\x00\x00\x00\x00"
	for _, x := range []struct {
		b      string
		part   string
		reason error
		errno  api.Errno
	}{
		{strings.Repeat("x", api.MaxBundle+1), "the whole", errLong, api.ErrBundleLong},
		{"", "the beginning", errShort, api.ErrBundle},
		{"HSB", "the beginning", errShort, api.ErrBundle},
		{"HSB2", "the beginning", errOther, api.ErrBundle},
		{"HSB1", "the goal", errShort, api.ErrBundle},
		{"HSB1\x00\x00\x00\x05\x00\x02ok", "the goal", errShort, api.ErrBundle},
		{"HSB1\x00\x00\x00\x05\x00\x02Ok\x00", "the goal", errOther, api.ErrBundle},
		{"HSB1\x00\x00\x00\x06\x00\x02ok\x00\x00", "the goal", errOther, api.ErrBundle},
		{"HSB1" + goal, "the number of certificates", errShort, api.ErrBundle},
		{"HSB1" + goal + "\x00\x00\x00\x01", "a certificate", errShort, api.ErrBundle},
		{"HSB1" + goal + "\x00\x00\x00\x02\x00\x00\x00\x01a\x00\x00\x00\x02a", "a certificate", errShort, api.ErrBundle},
		{"HSB1" + goal + "\x00\x00\x00\x00", "the derivation", errShort, api.ErrBundle},
		{"HSB1" + goal + "\x00\x00\x00\x00\x00\x00\x00\x00", "the derivation", errOther, api.ErrBundle},
		{"HSB1" + goal + "\x00\x00\x00\x00" + noSteps + "x", "the whole", errTail, api.ErrBundle},
	} {
		_, err := read([]byte(x.b))
		var u unread
		if !errors.As(err, &u) || u.part != x.part || errors.Unwrap(err) != x.reason {
			t.Errorf("Ways: %.60x is refused by %v", x.b, err)
		}
		for _, reason := range []error{errLong, errShort, errOther, errTail} {
			if errors.Is(err, reason) != (reason == x.reason) {
				t.Errorf("Ways: whether %v is %v", err, reason)
			}
		}
		if text := err.Error(); text != x.part+": "+x.reason.Error() {
			t.Errorf("Ways: it tells %q", text)
		}
		if errnoOf(err) != x.errno || errnoOf(errors.Join(errors.New("behind another"), err)) != x.errno {
			t.Errorf("Ways: %v is %d", err, errnoOf(err))
		}
	}
}

func TestLaid(t *testing.T) {
	for _, x := range []struct {
		parts []string
		want  string
	}{{nil, ""}, {[]string{""}, "\x00\x00\x00\x00"}, {[]string{"ab", "", "c"}, "\x00\x00\x00\x02ab\x00\x00\x00\x00\x00\x00\x00\x01c"}} {
		var parts [][]byte
		for _, p := range x.parts {
			parts = append(parts, []byte(p))
		}
		if got := laid([]byte("x"), parts...); string(got) != "x"+x.want || sizeOf(parts...) != len(x.want) {
			t.Errorf("Ways: %q are laid as %x", x.parts, got)
		}
	}
}
