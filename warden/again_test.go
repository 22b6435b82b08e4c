package warden

import (
	"math/rand"
	"slices"
	"testing"

	"warden/api"
)

// answered is what was told about a store that is opened again and again: the tuples behind each of the transactions that may still be there, and how many of these are safe.
type answered struct {
	behind [][]string
	safe   int
	times  int // it was opened
}

// opened holds a store against what was told before.
func (c *answered) opened(t *testing.T, s *Store) {
	t.Helper()
	n, safe, e := s.Revision()
	tuples, f := s.Read("")
	if e != api.OK || f != api.OK || safe != n {
		t.Fatalf("P12: opened, the store tells %d, %d, %d, %d", n, safe, e, f)
	}
	if n < c.safe || n >= len(c.behind) || !slices.Equal(tuples, c.behind[n]) {
		t.Fatalf("P15: opened, the store has revision %d and %q; safe were %d of %d: %q", n, tuples, c.safe, len(c.behind)-1, c.behind)
	}
	c.behind, c.safe = c.behind[:n+1], n
	c.times++
}

// goOn does calls on a store until one finds trouble, or there are enough.
func (c *answered) goOn(t *testing.T, s *Store, calls []call) api.Errno {
	t.Helper()
	for _, next := range calls {
		number, e := next.of(s)
		if number > 0 {
			tuples, _ := s.Read("")
			c.behind = append(c.behind, tuples)
		}
		if _, safe, r := s.Revision(); r == api.OK {
			c.safe = safe
		}
		if e != api.OK {
			return e
		}
	}
	return api.OK
}

// checkAgain opens a store again and again, of the files that the one ahead of it has left.
func checkAgain(t *testing.T, random *rand.Rand, options func() api.Options) map[api.Errno]int {
	t.Helper()
	all := randomTuples(random, schemaA, 20)
	seen := map[api.Errno]int{}
	for range 300 {
		c := &answered{behind: [][]string{nil}}
		var files []api.File
		for range 25 {
			s, e := Open(schemaA, files, options())
			if e == api.OK {
				c.opened(t, s)
				e = c.goOn(t, s, randomCalls(random, all))
			} else if s == nil || e != api.ErrLost && e != api.ErrFull {
				t.Fatalf("P15: Open(.., %q) = %v, %d", files, s, e)
			}
			seen[e]++
			files = s.Files()
		}
		c.opened(t, openedOf(t, schemaA, files))
		if c.times < 5 || len(c.behind) < 5 {
			t.Errorf("too little was tried: opened %d times, %d transactions", c.times, len(c.behind))
		}
	}
	return seen
}

func TestNothingSafeIsLostWithPower(t *testing.T) {
	random := rand.New(rand.NewSource(51))
	seen := checkAgain(t, random, func() api.Options { return randomCrash(random, random.Intn(40)) })
	if seen[api.ErrLost] < 3000 || seen[api.OK] < 500 {
		t.Errorf("too little was tried: %v", seen)
	}
}

func TestNothingSafeIsLostWithoutRoom(t *testing.T) {
	random := rand.New(rand.NewSource(52))
	seen := checkAgain(t, random, func() api.Options { return noRoom(random.Intn(40)) })
	if seen[api.ErrFull] < 1500 || seen[api.OK] < 500 {
		t.Errorf("too little was tried: %v", seen)
	}
}

func TestNothingSafeIsLostWithEither(t *testing.T) {
	random := rand.New(rand.NewSource(53))
	seen := checkAgain(t, random, func() api.Options {
		o := randomCrash(random, random.Intn(60))
		o.Full = random.Intn(60)
		return o
	})
	if seen[api.ErrFull] < 1000 || seen[api.ErrLost] < 1000 || seen[api.OK] < 500 {
		t.Errorf("too little was tried: %v", seen)
	}
}
