package digest_test

import (
	"bytes"
	"crypto/hmac"
	"crypto/sha256"
	"encoding/binary"
	"strings"
	"testing"

	"hearsay/api"
	"hearsay/digest"
)

const (
	hexOfNothing = "e3b0c44298fc1c149afbf4c8996fb92427ae41e4649b934ca495991b7852b855"
	hexOfABC     = "ba7816bf8f01cfea414140de5dae2223b00361a396177a9cb410ff61f20015ad"
	hexOfLong    = "248d6a61d20638b8e5c026930c3e6039a33ce45964ff2167f6ecedd419db06c1"
	longText     = "abcdbcdecdefdefgefghfghighijhijkijkljklmklmnlmnomnopnopq"
)

// someBytes: n bytes without a period that a block or a word has.
func someBytes(n int) []byte {
	b := make([]byte, n)
	for i := range b {
		b[i] = byte(i*i*7 + i*31 + i>>8 + 5)
	}
	return b
}

func librarySum(b []byte) api.Digest { return sha256.Sum256(b) }

func libraryMac(key, b []byte) api.Digest {
	m := hmac.New(sha256.New, key)
	m.Write(b)
	return api.Digest(m.Sum(nil))
}

// withSpare: b with spare room behind it, and a look at whether either has changed.
func withSpare(b []byte) (handed []byte, same func() bool) {
	whole := append(bytes.Clone(b), "the spare room behind it, that is longer than a whole block of SHA-256"...)
	kept := bytes.Clone(whole)
	return whole[:len(b)], func() bool { return bytes.Equal(whole, kept) }
}

// P1.1.

func TestSumOfTheExamples(t *testing.T) {
	for _, c := range []struct{ text, want string }{{"", hexOfNothing}, {"abc", hexOfABC}, {longText, hexOfLong}} {
		if got := digest.Hex(digest.Sum([]byte(c.text))); got != c.want {
			t.Errorf("Sum(%q) is %s, want %s", c.text, got, c.want)
		}
	}
	if got := digest.Hex(digest.Sum(nil)); got != hexOfNothing {
		t.Errorf("Sum(nil) is %s", got)
	}
}

func TestSumOfEveryLengthAroundBlocks(t *testing.T) {
	for n := range 5*64 + 2 {
		b := someBytes(n)
		if digest.Sum(b) != librarySum(b) {
			t.Errorf("Sum of %d bytes isn't their SHA-256", n)
		}
	}
	for _, n := range []int{8191, 8192, 65535, 65536, 1000003} {
		b := someBytes(n)
		if digest.Sum(b) != librarySum(b) {
			t.Errorf("Sum of %d bytes isn't their SHA-256", n)
		}
	}
}

func TestSumOfLikeBytes(t *testing.T) {
	for _, value := range []byte{0x00, 0x80, 0xff} {
		for _, n := range []int{1, 55, 56, 63, 64, 65, 119, 120, 128} {
			b := bytes.Repeat([]byte{value}, n)
			if digest.Sum(b) != librarySum(b) {
				t.Errorf("Sum of %d bytes %#x isn't their SHA-256", n, value)
			}
		}
	}
}

// P1.2.

// laid: the bytes of which Parts is the digest, as the chapter says them.
func laid(label string, parts ...[]byte) []byte {
	b := binary.BigEndian.AppendUint64(nil, uint64(len(label)))
	b = append(b, label...)
	for _, part := range parts {
		b = binary.BigEndian.AppendUint64(b, uint64(len(part)))
		b = append(b, part...)
	}
	return b
}

func TestPartsOfTheExamples(t *testing.T) {
	if digest.Parts("") != digest.Sum(make([]byte, 8)) {
		t.Errorf("Parts of an empty label isn't Sum of eight zeros")
	}
	want := digest.Sum([]byte{0, 0, 0, 0, 0, 0, 0, 2, 'a', 'b', 0, 0, 0, 0, 0, 0, 0, 1, 'c'})
	if digest.Parts("ab", []byte("c")) != want {
		t.Errorf("Parts(ab, c) isn't Sum of its bytes")
	}
	if digest.Parts("a", []byte("bc")) == want {
		t.Errorf("Parts(a, bc) is Parts(ab, c)")
	}
}

func TestPartsOfManyLengths(t *testing.T) {
	for _, label := range []string{"", "x", "\xff\x00é", strings.Repeat("l", 48), strings.Repeat("l", 64), strings.Repeat("l", 300)} {
		for n := range 140 {
			a, b, c := someBytes(n), someBytes(2*n+1), someBytes(300)
			if digest.Parts(label, a, nil, b, c) != librarySum(laid(label, a, nil, b, c)) {
				t.Errorf("Parts of a label of %d bytes and a part of %d", len(label), n)
			}
		}
		if digest.Parts(label) != librarySum(laid(label)) {
			t.Errorf("Parts of a label of %d bytes alone", len(label))
		}
	}
}

func TestPartsOfNoBytes(t *testing.T) {
	if digest.Parts("l", nil) != digest.Parts("l", []byte{}) {
		t.Errorf("a nil part isn't one of no bytes")
	}
	if digest.Parts("l", nil...) != digest.Parts("l") || digest.Parts("l", [][]byte{}...) != digest.Parts("l") {
		t.Errorf("a nil list of parts isn't one without parts")
	}
}

func TestPartsAreNotMistaken(t *testing.T) {
	b := func(s string) []byte { return []byte(s) }
	first := map[api.Digest]int{}
	for i, d := range []api.Digest{
		digest.Parts(""), digest.Parts("", nil), digest.Parts("", nil, nil),
		digest.Parts("abc"), digest.Parts("ab", b("c")), digest.Parts("a", b("bc")), digest.Parts("", b("abc")),
		digest.Parts("a", b("b"), b("c")), digest.Parts("a", b("c"), b("b")), digest.Parts("", b("a"), b("b"), b("c")),
		digest.Parts("abc", nil), digest.Parts("ab", nil, b("c")), digest.Parts("ab", b("c"), nil),
		digest.Parts("\x00\x00\x00\x00\x00\x00\x00\x00"),
	} {
		if j, found := first[d]; found {
			t.Errorf("Parts number %d and %d are the same", j, i)
		}
		first[d] = i
	}
}

// P1.3.

func TestMacOfTheExample(t *testing.T) {
	got := digest.Hex(digest.Mac([]byte("Jefe"), []byte("what do ya want for nothing?")))
	if got != "5bdcc146bf60754e6a042426089575c75a003f089d2739839dec58b964ec3843" {
		t.Errorf("Mac is %s", got)
	}
}

func TestMacOfEveryLengthOfKey(t *testing.T) {
	for n := range 200 {
		for _, m := range []int{0, 1, 55, 56, 64, 65, 200} {
			key, b := someBytes(n), someBytes(m)
			if digest.Mac(key, b) != libraryMac(key, b) {
				t.Errorf("Mac of a key of %d bytes and %d bytes", n, m)
			}
		}
	}
	if digest.Mac(nil, nil) != libraryMac(nil, nil) || digest.Mac([]byte{}, []byte{}) != digest.Mac(nil, nil) {
		t.Errorf("Mac of nothing")
	}
}

func TestMacKeysOf64And65Bytes(t *testing.T) {
	key, b := someBytes(65), []byte("b")
	short := digest.Sum(key)
	if digest.Mac(key, b) != digest.Mac(short[:], b) {
		t.Errorf("a key of 65 bytes isn't taken as its digest")
	}
	short = digest.Sum(key[:64])
	if digest.Mac(key[:64], b) == digest.Mac(short[:], b) {
		t.Errorf("a key of 64 bytes is taken as its digest")
	}
	if digest.Mac([]byte("k"), b) != digest.Mac([]byte("k\x00"), b) {
		t.Errorf("a key isn't filled up with zeros")
	}
}

// R3: what is handed in is neither changed, its spare room included, nor kept.

func TestArgumentsStayAsTheyWere(t *testing.T) {
	for _, n := range []int{0, 1, 55, 56, 63, 64, 65, 130} {
		a, aSame := withSpare(someBytes(n))
		b, bSame := withSpare(someBytes(n + 3))
		list := [][]byte{a, b, []byte("spare")}
		digest.Sum(a)
		digest.Parts("label", list[:2]...)
		digest.Mac(a, b)
		h := digest.New()
		h.Write(a)
		h.Write(b)
		h.Sum()
		h.Copy().Write(a)
		if !aSame() || !bSame() {
			t.Errorf("bytes handed in, %d of them, have changed", n)
		}
		if len(list[0]) != n || len(list[1]) != n+3 || string(list[2]) != "spare" {
			t.Errorf("the list of parts has changed")
		}
	}
}

func TestKeyAndBytesOfOneMemory(t *testing.T) {
	whole := someBytes(200)
	kept := bytes.Clone(whole)
	got := digest.Mac(whole[:70], whole[30:150])
	if got != libraryMac(kept[:70], kept[30:150]) || !bytes.Equal(whole, kept) {
		t.Errorf("Mac of a key and bytes that share memory")
	}
	if digest.Parts("l", whole[:70], whole[30:150], whole[30:150]) != librarySum(laid("l", kept[:70], kept[30:150], kept[30:150])) {
		t.Errorf("Parts of parts that share memory")
	}
}
