package bundle

import (
	"bytes"
	"slices"

	"hearsay/api"
	"hearsay/cert"
	"hearsay/clause"
	"hearsay/keys"
)

// opened: a certificate that the ring opens: its bytes, and the quote of what it says.
type opened struct {
	bytes []byte
	quote api.Clause
}

// openAll: Open's error of the first, in the list's order, that isn't opened.
func openAll(r *keys.Ring, certs [][]byte) ([]opened, api.Errno) {
	all := make([]opened, len(certs))
	for i, b := range certs {
		said, err := cert.Open(r, b)
		if err != api.OK {
			return nil, err
		}
		quote, _ := clause.Quote(said.Signer, said.Clause) // no error can be: what Open takes can be quoted
		all[i] = opened{b, quote}
	}
	return all, api.OK
}

// withQuotes: a list of its own, so that the policy's spare room stays as it is.
func withQuotes(policy []api.Clause, all []opened) []api.Clause {
	clauses := slices.Clone(policy)
	for _, o := range all {
		clauses = append(clauses, o.quote)
	}
	return clauses
}

// needed: the certificates that the derivation leans on beside the policy, in rising order of their bytes. None comes twice: a certificate has one quote, and a derivation out of a model has each rule once.
func needed(p api.Proof, policy []api.Clause, all []opened) [][]byte {
	var certs [][]byte
	for _, rule := range p.Rules {
		if !slices.ContainsFunc(policy, sameAs(rule)) {
			certs = append(certs, firstThatSays(rule, all))
		}
	}
	slices.SortFunc(certs, bytes.Compare)
	return certs
}

// firstThatSays: of the certificates whose quote the rule is, the one whose bytes stand first.
func firstThatSays(rule api.Clause, all []opened) []byte {
	same := sameAs(rule)
	var first []byte
	for _, o := range all {
		if same(o.quote) && (first == nil || bytes.Compare(o.bytes, first) < 0) {
			first = o.bytes
		}
	}
	return first
}

func sameAs(c api.Clause) func(api.Clause) bool {
	return func(x api.Clause) bool { return clause.Compare(x, c) == 0 }
}
