package cache

import (
	"testing"

	"ambry/api"
	"ambry/disk"
)

func TestMemorySparesTheStore(t *testing.T) { // P19.1
	c := open(t, disk.New(2000, 256), 1<<20)
	c.Put(get("/a"), reply("1", "Cache-Control", "max-age=5"), api.Times{})
	told(t, c, get("/a"), 0, "1", api.UseServe)
	if c.spared.Load() != 1 {
		t.Error("the store was asked")
	}
}
