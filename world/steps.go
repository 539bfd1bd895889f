package world

import "hearsay/api"

// doing: does the steps of one kind. With an error nothing has been changed, and nothing but the error is told.
type doing func(*World, api.Do) (api.Told, error)

// kinds: of steps, and what does them.
func kinds() map[int]doing {
	return map[int]doing{
		api.DoEnroll:    (*World).enroll,
		api.DoAssert:    (*World).assert,
		api.DoRetract:   (*World).retract,
		api.DoExport:    (*World).export,
		api.DoImport:    (*World).take,
		api.DoForget:    (*World).forget,
		api.DoQuery:     (*World).query,
		api.DoAsk:       (*World).ask,
		api.DoWatch:     (*World).watch,
		api.DoNews:      (*World).news,
		api.DoWhy:       (*World).why,
		api.DoLoss:      (*World).loss,
		api.DoProve:     (*World).prove,
		api.DoShow:      (*World).show,
		api.DoClauses:   (*World).clauses,
		api.DoDrop:      (*World).drop,
		api.DoCopy:      (*World).copied,
		api.DoSwap:      (*World).swap,
		api.DoFlip:      (*World).flip,
		api.DoCut:       (*World).cut,
		api.DoForge:     (*World).forge,
		api.DoWaiting:   (*World).waiting,
		api.DoCrash:     (*World).crash,
		api.DoRedundant: (*World).redundant,
	}
}

// step: what the step tells, done by its kind. ErrStep.
func (w *World) step(d api.Do) (api.Told, error) {
	do, there := kinds()[d.Kind]
	if !there {
		return api.Told{}, refused(api.ErrStep)
	}
	return do(w, d)
}
