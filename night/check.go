package night

import (
	"strings"

	"bateria/api"
	"bateria/band"
	"bateria/coin"
	"bateria/marks"
	"bateria/parade"
)

// Check returns the first error of a director.
func Check(x api.Director) api.Errno {
	return firstOf(
		func() api.Errno { return parade.Check(x.School) },
		func() api.Errno { return checkRules(x.School, x.Rules) },
		func() api.Errno { return marks.Check(x.Scale) },
		func() api.Errno { return band.Check(x.City) },
		func() api.Errno { return coin.Check(api.Ledger{Funds: x.Funds}) },
		func() api.Errno { return unless(within(x.Date, 0, api.MaxDate), api.ErrRange) },
	)
}

// checkRules returns the error of rules. Package parade tells it only beside valid starts, and not every valid school has these; but its first wing alone can start at 0.
func checkRules(s api.School, r api.Rules) api.Errno {
	s.Wings = s.Wings[:1]
	_, _, e := parade.Lasts(s, []int{0}, r)
	return e
}

func checkScript(script string) api.Errno {
	switch {
	case len(script) > api.MaxScript:
		return api.ErrLong
	case script != "" && !strings.HasSuffix(script, "\n"):
		return api.ErrForm
	case strings.Count(script, "\n") > api.MaxLines:
		return api.ErrFull
	}
	return api.OK
}

// firstOf asks for errors until there is one.
func firstOf(asks ...func() api.Errno) api.Errno {
	for _, ask := range asks {
		if e := ask(); e != api.OK {
			return e
		}
	}
	return api.OK
}

// unless is an error if something is not so.
func unless(isSo bool, e api.Errno) api.Errno {
	if isSo {
		return api.OK
	}
	return e
}

// isNumber says whether a number is that of one of so many things.
func isNumber(n, many int) bool { return within(n, 0, many-1) }

func within(n, least, most int) bool { return n >= least && n <= most }
