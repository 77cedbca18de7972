package agent_test

import (
	"testing"

	"gleaner/api"
)

// M3: nothing is filled but what lasts.
func TestStepFillLasts(t *testing.T) {
	a := behind(t, made(t, []api.Shard{{Batch: 9, Room: 9, First: 1, Most: 1}}, target("job", "j")), tells(0, "a 1\nb 1"))
	steps(t, a, fill(), a)
	a = behind(t, a, sync(), tick(1), tells(0, "a 1\nb 1"))
	want := a
	want.Filled = 2
	want.Shards = []api.Shard{{Items: []api.Item{waiting(0, "a", 0), waiting(1, "b", 0)}, Batch: 9, Room: 9, First: 1, Most: 1}}
	steps(t, a, fill(), want)
	steps(t, want, fill(), want)
	// It goes on where it was, and puts what comes behind what waits.
	a = behind(t, want, sync())
	want = a
	want.Filled = 4
	want.Shards = []api.Shard{{Items: []api.Item{waiting(0, "a", 0), waiting(1, "b", 0), waiting(2, "a", 1), waiting(3, "b", 1)}, Batch: 9, Room: 9, First: 1, Most: 1}}
	steps(t, a, fill(), want)
	steps(t, want, fill(), want)
	// The log's series last, and no samples of them.
	a.Lasting = len(logged(t, "", series(ref(1, "__name__", "a", "job", "j"), ref(2, "__name__", "b", "job", "j"))))
	a.Filled, a.Shards[0].Items = 0, nil
	steps(t, a, fill(), a)
	// More is filled than lasts.
	a.Cursor, a.Filled = 3, 3
	steps(t, a, fill(), a)
}

// M3: as long as there is room for the next one: none is passed over.
func TestStepFillRoom(t *testing.T) {
	a := behind(t, made(t, shards(), target("job", "j")), tells(0, "a 1\nb 1\nd 1\nf 1\nc 1\ne 1\ng 1"), sync())
	want := a
	want.Filled = 3
	want.Shards = shards()
	want.Shards[0].Items = []api.Item{waiting(0, "a", 0)}
	want.Shards[1].Items = []api.Item{waiting(1, "b", 0), waiting(2, "d", 0)}
	steps(t, a, fill(), want)
	steps(t, want, fill(), want)
	// When the first one of these is gone the next one has room, and what comes behind it, up to where there is none again.
	a = behind(t, want, send(1, api.FateDone))
	want = a
	want.Filled = 6
	want.Shards = shards()
	want.Shards[0].Items = []api.Item{waiting(0, "a", 0), waiting(4, "c", 0), waiting(5, "e", 0)}
	want.Shards[1].Items = []api.Item{waiting(2, "d", 0), waiting(3, "f", 0)}
	steps(t, a, fill(), want)
	steps(t, want, fill(), want)
	// A shard that waits behind what failed is filled as well, and waits on.
	a = behind(t, want, send(0, api.FateDone), send(1, api.FateLost), send(0, api.FateLost))
	want = a
	want.Filled = 7
	want.Shards = shards()
	want.Shards[0].Items, want.Shards[0].Waits, want.Shards[0].Till = []api.Item{waiting(5, "e", 0), waiting(6, "g", 0)}, 10, 10
	want.Shards[1].Items, want.Shards[1].Waits, want.Shards[1].Till = []api.Item{waiting(2, "d", 0), waiting(3, "f", 0)}, 5, 5
	steps(t, a, fill(), want)
}

// M3: each goes into the shard that has its labels, of up to eight.
func TestStepFillShards(t *testing.T) {
	for n := 1; n <= 8; n++ {
		var l []api.Shard
		for range n {
			l = append(l, api.Shard{Batch: 1, Room: 100, First: 1, Most: 1})
		}
		a := behind(t, made(t, l, target("job", "j")), tells(0, lines(60)), sync(), fill())
		all := map[int]int{}
		for i, s := range a.Shards {
			for _, x := range s.Items {
				all[x.Number]++
				if sum(x.Labels)%uint64(n) != uint64(i) {
					t.Errorf("%v waits in shard %d of %d", x, i, n)
				}
			}
		}
		if len(all) != 60 || a.Filled != 60 {
			t.Errorf("of %d shards: %d wait, %d are filled", n, len(all), a.Filled)
		}
	}
}

// sum of labels, as of chapter 3.
func sum(l []api.Label) uint64 {
	n := uint64(14695981039346656037)
	for _, x := range l {
		for _, c := range []byte(x.Name + "\xff" + x.Value + "\xff") {
			n = (n ^ uint64(c)) * 1099511628211
		}
	}
	return n
}
