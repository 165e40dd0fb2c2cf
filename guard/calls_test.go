package guard_test

import (
	"riparian/api"
	"riparian/guard"
)

// This file has the functions of the package, each with all that it returns in one reply.

func numberIn(s api.Store, t api.Term) reply {
	n, is, vars, e := guard.Number(s, t)
	return reply{n: n, is: is, waits: vars, e: e}
}

func test(s api.Store, t api.Term) reply {
	is, vars, e := guard.Test(s, t)
	return reply{is: is, waits: vars, e: e}
}

func all(s api.Store, l ...api.Term) reply {
	is, vars, e := guard.All(s, l)
	return reply{is: is, waits: vars, e: e}
}

func match(s api.Store, patterns, args []api.Term) reply {
	is, l, vars, e := guard.Match(s, patterns, args)
	return reply{is: is, binds: l, waits: vars, e: e}
}

func take(s api.Store, args []api.Term, c api.Clause) reply {
	is, l, vars, e := guard.Take(s, args, c)
	return reply{is: is, binds: l, waits: vars, e: e}
}

func answers(s api.Store, args []api.Term, p api.Proc) reply {
	l, e := guard.Answers(s, args, p)
	return reply{list: l, e: e}
}

func open(s api.Store, args []api.Term, p api.Proc) reply {
	l, is, vars, e := guard.Open(s, args, p)
	return reply{list: l, is: is, waits: vars, e: e}
}
