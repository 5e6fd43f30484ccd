package ranges_test

import (
	"fmt"
	"math/rand"
	"slices"
	"testing"

	"conclave/api"
	"conclave/ranges"
	"conclave/sum"
)

// named answers for each Hash a few names that have it.
func named() [256][]string {
	var all [256][]string
	for k, left := 0, 256*3; left > 0; k++ {
		name := fmt.Sprint("c", k)
		if h := sum.Hash(name); len(all[h]) < 3 {
			all[h] = append(all[h], name)
			left--
		}
	}
	return all
}

// parts answers a Part of each three numbers.
func parts(l ...int) []ranges.Part {
	var list []ranges.Part
	for p := range slices.Chunk(l, 3) {
		list = append(list, ranges.Part{Lo: p[0], Hi: p[1], Group: p[2]})
	}
	return list
}

// of answers a Map with that Epoch and a Part of each three numbers.
func of(epoch int, l ...int) ranges.Map { return ranges.Map{Epoch: epoch, Parts: parts(l...)} }

// owners is a map as the chapter's words tell it: of each Hash the group.
type owners [256]int

// laid answers whose each Hash is by m, by going through all that a Part says.
func laid(m ranges.Map) owners {
	var all owners
	for _, p := range m.Parts {
		for h := p.Lo; h < p.Hi; h++ {
			all[h] = p.Group
		}
	}
	return all
}

// told answers the one Right Map with that Epoch by which each Hash is whose it is in x.
func (x owners) told(epoch int) ranges.Map {
	m := ranges.Map{Epoch: epoch}
	for h, g := range x {
		if h == 0 || x[h-1] != g {
			m.Parts = append(m.Parts, ranges.Part{Lo: h, Group: g})
		}
		m.Parts[len(m.Parts)-1].Hi = h + 1
	}
	return m
}

// right tells what Right must, worked out in another way: the Hashes of all Parts, one behind the other, are 0 to 255.
func right(m ranges.Map) bool {
	var all, groups []int
	for _, p := range m.Parts {
		if p.Lo < 0 || p.Lo >= p.Hi || p.Hi > 256 || p.Group < 0 || p.Group > 2 || len(all) > 256 {
			return false
		}
		for h := p.Lo; h < p.Hi; h++ {
			all = append(all, h)
		}
		groups = append(groups, p.Group)
	}
	for k, h := range all {
		if k != h {
			return false
		}
	}
	return len(all) == 256 && len(slices.Compact(groups)) == len(m.Parts) && m.Epoch > 0 && m.Epoch <= 1<<30
}

func sameMap(a, b ranges.Map) bool { return a.Epoch == b.Epoch && slices.Equal(a.Parts, b.Parts) }

// isNone tells whether m is what stands beside a refusal.
func isNone(m ranges.Map) bool { return m.Epoch == 0 && len(m.Parts) == 0 }

func begun(t *testing.T, groups int) ranges.Map {
	t.Helper()
	m, why := ranges.New(groups)
	if why != api.OK {
		t.Fatalf("New(%d): %d", groups, why)
	}
	return m
}

// every answers a Map in which no two Hashes beside each other have one owner.
func every(epoch int) ranges.Map {
	var x owners
	for h := range x {
		x[h] = h % 3
	}
	return x.told(epoch)
}

// rights answers Right Maps of many kinds.
func rights(t *testing.T) []ranges.Map {
	t.Helper()
	return []ranges.Map{
		begun(t, 1), begun(t, 2), begun(t, 3), every(1), every(1<<30 - 1), every(1 << 30),
		of(7, 0, 256, 1), of(1<<30, 0, 256, 2), of(1, 0, 1, 2, 1, 256, 0), of(2, 0, 255, 0, 255, 256, 1),
		of(9, 0, 10, 0, 10, 20, 1, 20, 30, 0, 30, 40, 2, 40, 256, 0), of(256, 0, 1, 0, 1, 2, 1, 2, 254, 2, 254, 255, 1, 255, 256, 0),
	}
}

// wrongs answers Maps that are not Right, with what is wrong in each.
func wrongs() map[string]ranges.Map {
	return map[string]ranges.Map{
		"nothing":                        {},
		"no Parts":                       {Epoch: 1},
		"an empty list of Parts":         {Epoch: 1, Parts: []ranges.Part{}},
		"Epoch 0":                        of(0, 0, 256, 0),
		"Epoch below 0":                  of(-1, 0, 256, 0),
		"Epoch far below 0":              of(-1<<63, 0, 256, 0),
		"Epoch one more than the last":   of(1<<30+1, 0, 256, 0),
		"Epoch far above":                of(1<<63-1, 0, 256, 0),
		"Epoch 1 behind 32 bits":         of(1<<32+1, 0, 256, 0),
		"begins above 0":                 of(1, 1, 256, 0),
		"begins below 0":                 of(1, -1, 256, 0),
		"ends below 256":                 of(1, 0, 255, 0),
		"ends below 256, two":            of(1, 0, 9, 0, 9, 255, 1),
		"ends above 256":                 of(1, 0, 257, 0),
		"ends above 256, two":            of(1, 0, 9, 0, 9, 257, 1),
		"goes on behind 256":             of(1, 0, 256, 0, 256, 257, 1),
		"comes back from above 256":      of(1, 0, 300, 0, 300, 256, 1),
		"ends far above":                 of(1, 0, 1<<63-1, 0),
		"ends 256 behind 32 bits":        of(1, 0, 1<<32+256, 0),
		"a gap":                          of(1, 0, 9, 0, 10, 256, 1),
		"a gap at the end":               of(1, 0, 9, 0, 9, 250, 1, 251, 256, 0),
		"overlaps":                       of(1, 0, 9, 0, 8, 256, 1),
		"overlaps wholly":                of(1, 0, 256, 0, 0, 256, 1),
		"overlaps at the end":            of(1, 0, 256, 0, 255, 256, 1),
		"empty ahead":                    of(1, 0, 0, 1, 0, 256, 0),
		"empty in the middle":            of(1, 0, 9, 0, 9, 9, 1, 9, 256, 0),
		"empty behind":                   of(1, 0, 256, 0, 256, 256, 1),
		"empty alone":                    of(1, 0, 0, 0),
		"the wrong way round":            of(1, 256, 0, 0),
		"the wrong way round among some": of(1, 0, 9, 0, 9, 5, 1, 5, 256, 0),
		"the Parts in another order":     of(1, 128, 256, 1, 0, 128, 0),
		"Group below 0":                  of(1, 0, 256, -1),
		"Group below 0 behind":           of(1, 0, 9, 0, 9, 256, -1),
		"Group below 0 twice":            of(1, 0, 9, -1, 9, 256, -2),
		"Group MaxGroups":                of(1, 0, 256, api.MaxGroups),
		"Group MaxGroups behind":         of(1, 0, 9, 0, 9, 256, api.MaxGroups),
		"Group above MaxGroups":          of(1, 0, 256, api.MaxGroups+1),
		"Group far above":                of(1, 0, 256, 1<<63-1),
		"Group 0 behind 32 bits":         of(1, 0, 256, 1<<32),
		"two neighbours of one Group":    of(1, 0, 9, 0, 9, 256, 0),
		"neighbours of the last Group":   of(1, 0, 9, 2, 9, 256, 2),
		"neighbours in the middle":       of(1, 0, 9, 0, 9, 20, 1, 20, 30, 1, 30, 256, 0),
		"neighbours at the end":          of(1, 0, 9, 0, 9, 20, 1, 20, 256, 1),
	}
}

// anyMap answers a Map that is nearly Right: at most a few of its numbers are turned, a Part too many or missing.
func anyMap(r *rand.Rand) ranges.Map {
	m := anyRight(r)
	for range r.Intn(3) {
		k := r.Intn(len(m.Parts) + 1)
		if k == len(m.Parts) {
			m.Epoch = []int{0, 1, 2, 1 << 30, 1<<30 + 1, -1}[r.Intn(6)]
			continue
		}
		switch p := &m.Parts[k]; r.Intn(6) {
		case 0:
			p.Lo += r.Intn(3) - 1
		case 1:
			p.Hi += r.Intn(3) - 1
		case 2:
			p.Group += r.Intn(3) - 1
		case 3:
			p.Lo, p.Hi = p.Hi, p.Lo
		case 4:
			m.Parts = slices.Insert(m.Parts, k, ranges.Part{Lo: p.Lo, Hi: p.Lo + r.Intn(2), Group: r.Intn(3)})
		case 5:
			if len(m.Parts) > 1 {
				m.Parts = slices.Delete(m.Parts, k, k+1)
			}
		}
	}
	return m
}

// anyRight answers a Right Map with few Parts or many.
func anyRight(r *rand.Rand) ranges.Map {
	var x owners
	each := []int{1, 2, 20, 100, 300}[r.Intn(5)]
	for h, g := 0, r.Intn(3); h < 256; h++ {
		if r.Intn(each) == 0 {
			g = r.Intn(3)
		}
		x[h] = g
	}
	return x.told([]int{1, 2, 1 << 20, 1<<30 - 1, 1 << 30}[r.Intn(5)])
}
