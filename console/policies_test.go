package console_test

import (
	"fmt"
	"testing"

	"spoor/api"
	"spoor/console"
	"spoor/sample"
)

func TestPolicy(t *testing.T) {
	c := console.New()
	oks(t, c, "span a 7 1 0 web get 10 30")
	goes(t, c, `
> policy 5 0 - 0
error 211
> policy 255 0 - 0
error 211
> policy 0 1 - 0
error 211
> policy 0 0 web 0
error 211
> policy 0 0 - 1
error 211
> policy 3 0 - 0
error 211
> policy 3 0 -- 1
error 211
> policy 4 0 - 65537
error 211
> policy 4 0 - 9223372036854775807
error 211
> policy 1 9223372036854775807 - 0
error 211
> verdict a
0 policy -1 weight 0.0
> policy 3 0 -- 0
ok
> policy 2 9223372036854775807 - 0
ok
> policy 1 0 - 0
ok
> policy 4 0 - 0
ok
> verdict a
0 policy -1 weight 0.0
> policy 2 21 - 0
ok
> verdict a
0 policy -1 weight 0.0
> policy 2 20 - 0
ok
> verdict a
1 policy 5 weight 0.65536
> policy 3 0 web 0
ok
> verdict a
1 policy 5 weight 0.65536
> status a 2
ok
> verdict a
1 policy 2 weight 0.65536
`)
	// At most 20.
	for range 13 {
		oks(t, c, "policy 0 0 - 0")
	}
	goes(t, c, "> policy 0 0 - 0\nerror 211\n> policy 9 0 - 0\nerror 211\n> verdict a\n1 policy 2 weight 0.65536")
}

// A trace that only chance keeps stands for those too that were not kept.
func TestVerdictByChance(t *testing.T) {
	for trace := range uint64(40) {
		part := int(sample.Mix(api.TraceID{Lo: trace + 1}) >> 48)
		for _, p := range []int{part, part + 1} {
			c := console.New()
			oks(t, c, fmt.Sprintf("span a %d 1 0 web get 10 30", trace+1), fmt.Sprintf("policy 4 0 - %d", p))
			want := "0 policy -1 weight 0.0"
			if p > part {
				want = fmt.Sprintf("1 policy 0 weight 0.%d", 4294967296/p)
			}
			if got := said(t, c, "verdict a"); got != want {
				t.Errorf("trace %d, part %d: %s, not %s", trace+1, p, got, want)
			}
		}
	}
}

func TestVerdict(t *testing.T) {
	goes(t, console.New(), `
> verdict a
error 242
> span a 7 1 0 web get 10 30
ok
> span b 7 2 0 db get 31 32
ok
> span other 8 3 0 web get 10 30
ok
> span bad 7 4 0 web get 10 9
ok
> policy 3 0 db 0
ok
> policy 2 22 - 0
ok
> verdict a
0 policy -1 weight 0.0
> verdict b
1 policy 0 weight 0.65536
> verdict a b
1 policy 0 weight 0.65536
> verdict b a
1 policy 0 weight 0.65536
> verdict a a
error 101
> verdict a other
error 101
> verdict bad
error 101
> verdict a bad
error 101
> verdict a none
error 242
> verdict a b
1 policy 0 weight 0.65536
> span b 7 2 0 log get 31 32
ok
> verdict a b
1 policy 1 weight 0.65536
> span b 7 2 0 log get 31 31
ok
> verdict a b
0 policy -1 weight 0.0
`)
}
