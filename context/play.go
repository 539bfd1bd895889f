package context

import (
	"hearsay/api"
	"hearsay/clause"
)

func (c *core) play(r api.Record) error {
	if !c.played(r) {
		return refused(api.ErrReplay)
	}
	return nil
}

// played: whether the record tells a change that can be; if so, it is made.
func (c *core) played(r api.Record) bool {
	switch r.Kind {
	case api.RecAssert:
		return noBytes(r) && noId(r) && c.playAssert(r.Clause)
	case api.RecRetract:
		return noBytes(r) && noId(r) && c.playRetract(r.Clause)
	case api.RecTake:
		return noClause(r) && noId(r) && c.playTake(r.Bytes)
	case api.RecForget:
		return noClause(r) && noBytes(r) && c.forget(r.Id) == nil
	}
	return false
}

func (c *core) playAssert(s api.Clause) bool {
	if clause.Check(s) != api.OK || c.owns(s) {
		return false
	}
	c.keep([]api.Clause{clause.Instance(s, nil)}) // a copy, as what is handed in isn't kept
	return true
}

func (c *core) playRetract(s api.Clause) bool {
	_, err := c.drop([]api.Clause{s})
	return err == nil
}

func (c *core) playTake(b []byte) bool {
	came, err := c.take(b)
	return came && err == nil
}

func noClause(r api.Record) bool { return clause.Compare(r.Clause, api.Clause{}) == 0 }

func noBytes(r api.Record) bool { return len(r.Bytes) == 0 }

func noId(r api.Record) bool { return r.Id == api.Digest{} }
