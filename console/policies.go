package console

import (
	"slices"
	"strconv"

	"spoor/api"
	"spoor/sample"
)

// noService stands in a line for a policy's empty Name.
const noService = "-"

func (c *Console) policy(l *line) act {
	p := api.Policy{Kind: api.PolicyKind(l.byte()), Nanos: uint64(l.number()), Name: l.field(), Part: l.count()}
	if p.Name == noService {
		p.Name = ""
	}
	return func() string {
		all := append(slices.Clone(c.policies), p)
		need(sample.Check(all))
		c.policies = all
		return done
	}
}

func (c *Console) verdict(l *line) act {
	names := append([]string{l.name()}, l.names()...)
	return func() string {
		v, why := sample.Decide(c.policies, c.spansOf(names))
		need(why)
		return truth(v.Keep) + " policy " + strconv.Itoa(v.Policy) + " weight " + pair(v.Weight.Hi, v.Weight.Lo)
	}
}
