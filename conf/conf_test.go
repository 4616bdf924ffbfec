package conf

import (
	"reflect"
	"strings"
	"testing"

	"ambry/api"
)

// but answers the settings, but for what change says.
func but(change func(c *api.Conf)) api.Conf {
	c := api.Conf{Ranges: true, Console: "console", Log: 100}
	change(&c)
	return c
}

func TestDefault(t *testing.T) { // P29.1
	if !reflect.DeepEqual(Default(), but(func(*api.Conf) {})) {
		t.Error(Default())
	}
}

func TestParse(t *testing.T) { // P29.1, and the example
	deny := api.Rule{Method: "DELETE", Host: "*", Path: "**"}
	for s, change := range map[string]func(c *api.Conf){
		"":                                     func(c *api.Conf) {},
		"\n\r\n \t \n\n":                       func(c *api.Conf) {},
		"# what\n  \t#else \\\n#":              func(c *api.Conf) {},
		"deny DELETE * **":                     func(c *api.Conf) { c.Rules = []api.Rule{deny} },
		"ranges off\r\n":                       func(c *api.Conf) { c.Ranges = false },
		"ranges off\nranges on":                func(c *api.Conf) {},
		" \tconsole \t x!y \nlog 0":            func(c *api.Conf) { c.Console, c.Log = "x!y", 0 },
		"log 200\nlog 000000007":               func(c *api.Conf) { c.Log = 7 },
		"log 5\nlog 200\nconsole a\nconsole b": func(c *api.Conf) { c.Log, c.Console = 200, "b" },
		"deny DELETE * **\n\n\tallow a b c\r\ndeny  DELETE\t* ** ": func(c *api.Conf) {
			c.Rules = []api.Rule{deny, {Allow: true, Method: "a", Host: "b", Path: "c"}, deny}
		},
		strings.Repeat("deny DELETE * **\n", 50): func(c *api.Conf) {
			for range 50 {
				c.Rules = append(c.Rules, deny)
			}
		},
		"#" + strings.Repeat("x", api.MaxText-1): func(c *api.Conf) {},
	} {
		got, line, e := Parse(s)
		if e != api.OK || line != 0 || !reflect.DeepEqual(got, but(change)) {
			t.Errorf("%.40q: %+v %d %v", s, got, line, e)
		}
	}
}

func TestParseRefuses(t *testing.T) { // P29.1
	for s, want := range map[string]int{
		"what": 1, "\n\nranges": 3, "ranges ON": 1, "ranges on off": 1, "Ranges on": 1, "console": 1, "console a b": 1, "#\nconsole a(b": 2, "log": 1, "log x": 1, "log -1": 1, "log 201": 1,
		"log 0000000007": 1, "log 5 6": 1, "log 5\nwhat\nelse": 2, "deny * *": 1, "deny * * \\": 1, "allow": 1, "ranges on\r\r\nx": 1, "console a\x00": 1, "log 5 # so": 1, "x#": 1,
		strings.Repeat("deny * * *\n", 51): 51, strings.Repeat("\n", 400) + "deny": 401, strings.Repeat(" ", api.MaxText+1): 0, "ranges\non": 1,
	} {
		if c, line, e := Parse(s); e != api.ErrConf || line != want || !reflect.DeepEqual(c, api.Conf{}) {
			t.Errorf("%.40q: %+v %d %v", s, c, line, e)
		}
	}
}

func TestText(t *testing.T) { // P29.2, P29.3
	if got := Text(api.Conf{Console: "c", Log: -5}); got != "ranges off\nconsole c\nlog 0\n" {
		t.Errorf("%q", got)
	}
	c := but(func(c *api.Conf) {
		c.Log = 200
		c.Rules = []api.Rule{{Allow: true, Method: "GET", Host: "*", Path: `/\*`}, {Method: "?", Host: "h", Path: "#"}}
	})
	if got := Text(c); got != "ranges on\nconsole console\nlog 200\nallow GET * /\\*\ndeny ? h #\n" {
		t.Errorf("%q", got)
	}
	for _, c := range []api.Conf{c, Default(), but(func(c *api.Conf) { c.Ranges, c.Log = false, 0 })} {
		if got, _, e := Parse(Text(c)); e != api.OK || !reflect.DeepEqual(got, c) {
			t.Errorf("%+v %v", got, e)
		}
	}
}
