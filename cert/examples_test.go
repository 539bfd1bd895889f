package cert_test

import (
	"strings"
	"testing"

	"hearsay/api"
	"hearsay/cert"
)

// The examples of chapter 19, one by one. The ring's secret is s.

const (
	exampleBody = "48 53 43 31 | 03 61 6e 6e | 00 02 6f 6b 00 00 00"
	exampleSeal = "17cb347cf8d15ef562fef58a51999bd11d08268d917f2db09e1323795b14ba8c" // worked out by another program
)

func exampleCert() string { return unhex(exampleBody + exampleSeal) }

func TestExample1(t *testing.T) {
	body := unhex(exampleBody)
	if len(body) != 15 || len(exampleCert()) != 47 || exampleCert() != sealed("s", "ann", body) {
		t.Fatalf("the example isn't the chapter's: %x", exampleCert())
	}
	wantBody(t, "ann", fact("ok"), body)
	r := ringOf(t, "s", "ann", "bob")
	for range 3 {
		wantIssued(t, r, "ann", fact("ok"), exampleCert())
	}
	if l := r.Signed("ann"); len(l) != 1 || l[0] != sum(body) {
		t.Errorf("P19.2: ann has signed %x", l)
	}
}

func TestExample2(t *testing.T) {
	r := ringOf(t, "s", "ann", "bob")
	unsafe := rule(atom("p", v(0)))
	wantNoBody(t, "", unsafe, api.ErrPrincipal)
	wantNoBody(t, "ann", unsafe, api.ErrSafe)
	wantNoBody(t, "ann", saidBy(txt("bob"), fact("ok")), api.ErrQualified)
	wantNotIssued(t, r, "carl", fact("ok"), api.ErrUnknown)
	wantNotIssued(t, r, "carl", unsafe, api.ErrSafe)
}

func TestExample3(t *testing.T) {
	for _, tail := range texts("", "00", "03 61 6e 6e", exampleBody) {
		wantNotRead(t, unhex("48 53 43 32"+tail), api.ErrMagic)
	}
	wantNotRead(t, "", api.ErrMagic)
	wantNotRead(t, unhex("48 53 43"), api.ErrMagic)
	const begin = "48 53 43 31"
	wantNotRead(t, unhex(begin), api.ErrShort)
	wantNotRead(t, unhex(begin+"00"), api.ErrCode)
	wantNotRead(t, unhex(begin+"41"), api.ErrCode)
	wantNotRead(t, unhex(begin+"03 61 6e"), api.ErrShort)
	wantNotRead(t, unhex(begin+"03 61 6e 6e"+strings.Repeat("00", 31)), api.ErrShort)
	wantNotRead(t, unhex(begin+"03 61 6e 6e"+strings.Repeat("00", 32)), api.ErrShort)
}

func TestExample4(t *testing.T) {
	for b := range 256 {
		wantNotRead(t, exampleCert()+string([]byte{byte(b)}), api.ErrTail)
	}
	// The clause begins with 02 6f then: a text of 111 bytes as a qualifier.
	wantNotRead(t, unhex("48 53 43 31 | 04 61 6e 6e 00 | 02 6f 6b 00 00 00"+exampleSeal), api.ErrCode)
}

func TestExample5(t *testing.T) {
	r := ringOf(t, "s", "ann", "bob")
	b := issued(t, r, "ann", fact("ok"))
	wantOpened(t, r, b, api.Cert{Signer: "ann", Clause: fact("ok"), Seal: api.Digest([]byte(b[15:]))})
	for bit := range 8 * 32 {
		wantRefused(t, r, turned(b, 15+bit/8, 1<<(bit%8)), api.ErrSeal)
	}
	bobs, ons := strings.Replace(b, "\x03ann", "\x03bob", 1), strings.Replace(b, "\x02ok", "\x02on", 1)
	for range 2 {
		wantRefused(t, r, bobs, api.ErrSeal)
		wantRefused(t, r, ons, api.ErrSeal)
		issued(t, r, "bob", fact("ok"))
		issued(t, r, "ann", fact("on"))
	}
}

func TestExample6(t *testing.T) {
	r, other := ringOf(t, "s", "ann", "bob"), ringOf(t, "s", "ann")
	b := issued(t, r, "ann", fact("ok"))
	wantRefused(t, other, b, api.ErrSeal)
	wantIssued(t, other, "ann", fact("ok"), b)
	wantOpened(t, other, b, api.Cert{Signer: "ann", Clause: fact("ok"), Seal: api.Digest([]byte(b[15:]))})
}

// TestWorkedElsewhere: certificates and their ids, worked out by another program.
func TestWorkedElsewhere(t *testing.T) {
	rules := with(rule(atom("p", v(0)), atom("q", v(0))), test(api.OpNe, v(0), txt("")))
	for _, x := range []struct {
		secret, u string
		c         api.Clause
		want, id  string
	}{
		{"s", "ann", fact("ok"), exampleBody + exampleSeal, "1a2676dd9c761ddd2ddb91bf043d5c91a5b83b2600508df0df5b9967fb90e7ea"},
		{"s", "bob", fact("ok"), "4853433103626f6200026f6b000000 832cb564bd5c78c5dce58b38ea755e9213443f643ee82cc27fb3d3bed8d36a16", "50547226d7e696b42d68af5bf1bbe6a858a28cc906bdd20b0661adb5851ead85"},
		{"", "\xff", fact("ok"), "4853433101ff00026f6b000000 5073585725d1b083c53b584fe71a1a4fb5508ccb5c9b1f712d8f4a10373b4207", "fd9a8d93e46407fd604a002e9f87bfa0a4487c49a8c5010ec180f12f50de658e"},
		{
			strings.Repeat("x", 65), long(64), rules,
			"48534331 40" + strings.Repeat("61", 64) + "00017001030000000000000000 01 00017101030000000000000000 01 020300000000000000000200 5972b0095962607feba76ff32f18d110cbabdd091fb5988a134603e32bfc0289",
			"6182e33d9be2915e6cb62944a2341289ab0465f0d376f76afc0b7564cc53dd18",
		},
	} {
		r := ringOf(t, x.secret, x.u)
		wantIssued(t, r, x.u, x.c, unhex(x.want))
		if id := cert.Id([]byte(unhex(x.want))); string(id[:]) != unhex(x.id) {
			t.Errorf("P19.5: the id is %x, want %s", id, x.id)
		}
	}
}
