package doc

import (
	"testing"

	"ambry/api"
	"ambry/disk"
)

func TestKeepsNothingThatIsOver(t *testing.T) { // writers and readers go when they were told their end
	s := open(t, disk.New(512, 512))
	for i := range 4 {
		w, _ := s.Begin(api.Key{}, nil)
		r, _, _ := s.Attach(api.Key{})
		if i%2 == 0 {
			must(t, s.Close(w))
		} else {
			must(t, s.Abort(w))
		}
		s.Next(r)
	}
	if len(s.readers)+len(s.writers)+len(s.open) > 0 {
		t.Error("keeps what is over")
	}
}
