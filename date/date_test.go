package date

import (
	"math"
	"math/rand"
	"strings"
	"testing"
	"time"

	"ambry/api"
)

const old = "Mon Jan _2 15:04:05 2006"

func TestText(t *testing.T) { // P9.1, and the example
	for _, c := range []struct {
		t    int64
		want string
	}{
		{0, "Thu, 01 Jan 1970 00:00:00 GMT"}, {784111777, "Sun, 06 Nov 1994 08:49:37 GMT"},
		{-1, "Thu, 01 Jan 1970 00:00:00 GMT"}, {math.MinInt64, "Thu, 01 Jan 1970 00:00:00 GMT"},
		{api.MaxTime, "Fri, 31 Dec 9999 23:59:59 GMT"}, {api.MaxTime + 1, "Fri, 31 Dec 9999 23:59:59 GMT"}, {math.MaxInt64, "Fri, 31 Dec 9999 23:59:59 GMT"},
		{951782400, "Tue, 29 Feb 2000 00:00:00 GMT"}, {4107542400, "Mon, 01 Mar 2100 00:00:00 GMT"},
	} {
		if got := Text(c.t); got != c.want {
			t.Errorf("%d: %s", c.t, got)
		}
	}
}

func TestEveryDayInThreeForms(t *testing.T) { // P9.1, P9.2
	r := rand.New(rand.NewSource(9))
	for day := int64(0); day <= api.MaxTime/86400; day += 1 + int64(r.Intn(40)) {
		at := day*86400 + int64(r.Intn(86400))
		u := time.Unix(at, 0).UTC()
		if Text(at) != u.Format("Mon, 02 Jan 2006 15:04:05 GMT") {
			t.Fatal(at, Text(at))
		}
		forms := []string{Text(at), u.Format(old)}
		if u.Year() < 2070 {
			forms = append(forms, u.Format("Monday, 02-Jan-06 15:04:05 GMT"))
		}
		for _, s := range forms {
			if got, e := Parse(s); got != at || e != api.OK {
				t.Fatal(s, got, e)
			}
		}
	}
}

func TestYearsOfTwoDigits(t *testing.T) { // P9.1
	for s, want := range map[string]int64{
		"Sunday, 06-Nov-94 08:49:37 GMT":   784111777,
		"Thursday, 01-Jan-70 00:00:00 GMT": 0,
		"Friday, 31-Dec-99 23:59:59 GMT":   946684799,
		"Saturday, 01-Jan-00 00:00:00 GMT": 946684800,
		"Tuesday, 31-Dec-69 23:59:59 GMT":  3155759999,
	} {
		if got, e := Parse(s); got != want || e != api.OK {
			t.Error(s, got, e)
		}
	}
}

func TestParseRefuses(t *testing.T) { // P9.1
	for _, s := range []string{
		"", "x", strings.Repeat("x", 24), strings.Repeat("x", 29), strings.Repeat("x", 30), ",", "Sun,", "Sunday,",
		"Sun, 06 Nov 1994 08:49:37", "Sun, 06 Nov 1994 08:49:37 GMT ", " Sun, 06 Nov 1994 08:49:37 GMT", "Sun, 06 Nov 1994 08:49:37 UTC",
		"Sun, 06 Nov 1994 08:49:37 gmt", "sun, 06 Nov 1994 08:49:37 GMT", "Sun, 06 NOV 1994 08:49:37 GMT", "Sun, 6 Nov 1994 08:49:37 GMT ",
		"Mon, 06 Nov 1994 08:49:37 GMT", "Sunday, 06 Nov 1994 08:49:37 GMT", "Sun, 06-Nov-94 08:49:37 GMT",
		"Sun, 06 Nov 1994 24:00:00 GMT", "Mon, 07 Nov 1994 24:00:00 GMT", "Sun, 06 Nov 1994 08:60:37 GMT", "Sun, 06 Nov 1994 08:49:60 GMT",
		"Sun, 31 Nov 1994 08:49:37 GMT", "Thu, 01 Dec 1994 08:49:3x GMT", "Sun, 00 Nov 1994 08:49:37 GMT", "Mon, 29 Feb 1999 00:00:00 GMT",
		"Thu, 29 Feb 2100 00:00:00 GMT", "Wed, 31 Dec 1969 23:59:59 GMT", "Sat, 01 Jan 10000 00:00:00 GMT", "Sat, 01 Jan 0000 00:00:00 GMT",
		"Sun, 06 Nov 1994 08.49.37 GMT", "Sun, 06 Xyz 1994 08:49:37 GMT", "Thu, 06 Jan 1994 08:49:37 GMt",
		"Sun Nov 06 08:49:37 1994", "Sun Nov 6 08:49:37 1994", "Sun Nov  6 08:49:37 94", "Mon Nov  6 08:49:37 1994", "Sun Nov   08:49:37 1994 ",
		"Sun Nov  6 08:49:37 1969", "Sunday, 06-Nov-1994 08:49:37 GMT", "Monday, 06-Nov-94 08:49:37 GMT", "Sunday, 6-Nov-94 08:49:37 GMT",
		"Sunday, 06-Nov-94 25:49:37 GMT", "Thursday, 30-Feb-94 08:49:37 GMT", "Sunday, 06 Nov 94 08:49:37 GMT", "Sun, -6 Nov 1994 08:49:37 GMT",
		"Thu, 01 Jan 1970 00:00:-1 GMT", "784111777",
	} {
		if got, e := Parse(s); e != api.ErrDate || got != 0 {
			t.Errorf("%q: %d %v", s, got, e)
		}
	}
}

func TestOneByteChanged(t *testing.T) { // P9.2: no other text is that date
	good := Text(784111777)
	for i := range good {
		for c := range 256 {
			b := []byte(good)
			b[i] = byte(c)
			got, e := Parse(string(b))
			if string(b) != good && e == api.OK && Text(got) != string(b) {
				t.Errorf("%q: %d", b, got)
			}
		}
	}
}
