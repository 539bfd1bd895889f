package world_test

import "hearsay/api"

// richSteps: a world in which there is something of everything: contexts that own, took and forgot, messages good and spoilt, watches with news, a journal that was opened again. Each step is told OK.
func richSteps() []api.Do {
	return steps(
		doEnroll("cy"), doEnroll("ann"), doEnroll("dan"), doEnroll("bob"),
		doAssert("ann", "good(y). good(x). ok(X) :- good(X), X != y. n(1). n(2). n(3). ok(X) :- good(X), X != y."),
		doExport("ann", "good(x).", 0), doExport("ann", "ok(x).", 3), doExport("ann", "ok(X) :- good(X), X != y.", 0), doCopy(1),
		doAssert("bob", "may(X) :- ann says good(X). may(z). sum(X, Y) :- may(X), W says ok(Y), Y < X. may(w)."),
		doWatch("bob", "may(X)?"), doImport("bob", 1), doImport("bob", 2), doWatch("bob", "W says ok(X)?"),
		doProve("bob", "may(x)?", 3), doExport("ann", "good(y).", 0), doCopy(6), doFlip(7, 20, 1), doCopy(5), doCut(8, 30), doForge("junk"),
		doImport("cy", 3), doAssert("cy", "may(X) :- ann says good(X). t. ann says may(k)."), doRetract("cy", "t."), doWatch("cy", "W says may(X)?"),
		doCopy(6), doImport("dan", 10), doForget("dan", hexOf(idOf(certificate("s", "ann", "good(y).")))),
		doAssert("dan", "q(1). q(2). q(3) :- q(1). q(X) :- q(X), q(X). q(X) :- q(X)."), doWatch("dan", "q(X)?"), doRetract("dan", "q(2)."), doCrash("dan", greatestInt),
		doSwap(4, 9), doRetract("bob", "may(w)."), doCopy(4), doImport("cy", 11),
	)
}

// The messages that the rich world has: a certificate, a bundle, a certificate, a spoilt one, a bundle that was cut, and four bytes; in the row's order.
var richMessages = [...]int{9, 5, 6, 7, 8, 4}

// probes: steps of all kinds, by whose answers a world shows what there is: watches and next numbers too.
func probes() []api.Do {
	l := steps(doWaiting(), doForge("probe"))
	for _, who := range texts("ann", "bob", "cy", "dan") {
		l = append(l, doClauses(who), doNews(who, 1), doNews(who, 2), doNews(who, 3), doWatch(who, "W says good(X)?"), doRedundant(who), doLoss(who, "ann"), doQuery(who, "may(X)?", 9))
	}
	for _, n := range richMessages {
		l = append(l, doShow("cy", n), doImport("ann", n))
	}
	return append(l,
		doExport("ann", "good(x).", 0), doExport("bob", "may(x).", 3), doExport("bob", "may(x).", 2), doImport("cy", 13), doProve("cy", "may(x)?", 9), doWhy("bob", "may(x)?"), doAsk("bob", "sum(X, Y)?"),
		doAssert("bob", "may(j). may(z)."), doRetract("bob", "may(z)."), doNews("bob", 1), doForget("bob", hexOf(idOf(certificate("s", "ann", "good(x).")))), doNews("bob", 1),
		doCrash("dan", 400), doCrash("bob", greatestInt), doNews("bob", 1), doWatch("bob", "may(X)?"), doEnroll("eve"), doWaiting(),
	)
}

func someWhos() []string { return texts("ann", "bob", "cy", "nobody", "") }

func somePrograms() []string {
	return texts("good(x).", "may(z). may(q). may(z). a.", "good(y). n(1).", "", "% nothing", "p(", "good(x). p(X).", "may(X) :- ann says good(X).", "ann says good(x).", "never. q(1) :- .")
}

func someExports() []string {
	return texts("good(x).", "ok(x).", "may(x).", "ok(X) :- good(X), X != y.", "never.", "ann says good(x).", "p(", "p(X) :- q(X).", "")
}

func someQueries() []string {
	return texts("may(X)?", "good(x)?", "may(x)?", "W says good(X)?", "sum(X, Y)?", "never?", "p(", "may(x).", "")
}

func someFuels() []int { return ints(leastInt, 0, 1, 2, 3, 4, greatestInt) }

func someNumbers() []int { return ints(-1, 0, 1, 4, 5, 6, 7, 8, 9, 12, leastInt, greatestInt) }

// sampleSteps: of each kind with many arguments, right and wrong ones; by the kind.
func sampleSteps() map[int][]api.Do {
	all := map[int][]api.Do{}
	add := func(l ...api.Do) {
		for _, d := range l {
			all[d.Kind] = append(all[d.Kind], d)
		}
	}
	for _, who := range someWhos() {
		addByTexts(who, add)
		addByNumbers(who, add)
	}
	addOnWire(add)
	add(doRedundant("dan"), doNews("dan", 1), doWhy("dan", "q(3)?"), doLoss("dan", "ann"))
	for _, who := range texts("eve", "ann", "", long(64), long(65), "\xff") {
		add(doEnroll(who))
	}
	for _, kind := range noKinds() {
		add(api.Do{Kind: kind, Who: "ann", Text: "good(x).", N: 4})
	}
	return all
}

// noKinds: numbers that are no kind's.
func noKinds() []int {
	return ints(0, -1, -24, 25, 26, 256+1, 1<<32+1, leastInt, leastInt+1, greatestInt)
}

func addByTexts(who string, add func(...api.Do)) {
	for _, text := range somePrograms() {
		add(doAssert(who, text), doRetract(who, text))
	}
	for _, fuel := range someFuels() {
		for _, text := range someExports() {
			add(doExport(who, text, fuel))
		}
		for _, text := range someQueries() {
			add(doQuery(who, text, fuel), doProve(who, text, fuel))
		}
	}
	for _, text := range someQueries() {
		add(doAsk(who, text), doWatch(who, text), doWhy(who, text))
	}
	for _, text := range append(noDigests(), hexOf(idOf(certificate("s", "ann", "good(x)."))), hexOf(idOf(certificate("s", "ann", "ok(x)."))), hexOf(api.Digest{})) {
		add(doForget(who, text))
	}
	for _, to := range texts("ann", "bob", "nobody", "", long(64), long(65)) {
		add(doLoss(who, to))
	}
}

// noDigests: texts that are no digest's.
func noDigests() []string {
	good := hexOf(idOf(certificate("s", "ann", "good(x).")))
	return texts("", "zz", good[:63], good+"0", " "+good[1:], "G"+good[1:], good[:63]+"\x00", hexOf(api.Digest{10})[:1]+"A"+good[2:])
}

func addByNumbers(who string, add func(...api.Do)) {
	for _, n := range someNumbers() {
		add(doImport(who, n), doShow(who, n))
	}
	for _, n := range ints(-1, 0, 1, 2, 3, 64, 65, leastInt, greatestInt) {
		add(doNews(who, n))
	}
	for _, m := range ints(-1, 0, 39, 40, 41, 100, 150, 200, 300, leastInt, greatestInt) {
		add(doCrash(who, m))
	}
	add(doClauses(who), doRedundant(who))
}

func addOnWire(add func(...api.Do)) {
	for _, n := range someNumbers() {
		add(doDrop(n), doCopy(n))
		for _, m := range ints(-1, 0, 4, 8, 29, 30) {
			add(doSwap(n, m), doCut(n, m))
			for _, k := range ints(0, 1, -1, 256) {
				add(doFlip(n, m, k))
			}
		}
	}
	add(doForge(""), doForge("x"), doForge(certificate("s", "ann", "good(x).")), doForge(long(api.MaxMessage)), doForge(long(api.MaxMessage+1)), doWaiting())
}
