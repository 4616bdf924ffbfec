package date

import (
	"testing"
	"time"
)

func TestNamesAreMadeOnce(t *testing.T) { // where a date asks for them first, and not again
	var c calendar
	if c.names.days != nil || c.names.months != nil {
		t.Error("made before they were asked for")
	}
	for i := range 7 {
		if c.words().days[i] != time.Weekday(i).String() {
			t.Errorf("day %d", i)
		}
	}
	for i := range 12 {
		if c.words().months[i] != time.Month(i + 1).String()[:3] {
			t.Errorf("month %d", i)
		}
	}
	c.names.days[0] = "Someday"
	if c.words().days[0] != "Someday" {
		t.Error("made again")
	}
}
