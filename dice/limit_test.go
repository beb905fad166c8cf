package dice

import (
	"math"
	"testing"

	"worldmint/api"
)

// rejecting returns a die whose words at the positions from 0 to times - 1 are not accepted for 3 results; all others are 7.
func rejecting(times int) *Dice {
	return &Dice{word: func(at int) uint64 {
		if 0 <= at && at < times {
			return math.MaxUint64
		}
		return 7
	}}
}

// P4.6: the last word that a roll may take is the 128th one.
func TestRollLimit(t *testing.T) {
	for times := range 300 {
		d := rejecting(times)
		for ; times >= 128; times -= 128 {
			before := d.At()
			if r, e := d.Roll(3); r != 0 || e != api.ErrLimit || d.At() != before+128 {
				t.Errorf("before %d words that are not accepted: %d, %d, to %d", times, r, e, d.At())
			}
		}
		before := d.At()
		if r, e := d.Roll(3); r != 1 || e != api.OK || d.At() != before+times+1 {
			t.Errorf("before %d words that are not accepted: %d, %d, to %d", times, r, e, d.At())
		}
	}
}

// P4.6: the position passes from the greatest int to the least one, also within a roll.
func TestRollLimitAtEnd(t *testing.T) {
	d := &Dice{word: func(int) uint64 { return math.MaxUint64 }, at: math.MaxInt - 1}
	if r, e := d.Roll(3); r != 0 || e != api.ErrLimit || d.At() != math.MinInt+126 {
		t.Errorf("%d, %d, to %d", r, e, d.At())
	}
	if r, e := d.Roll(4); r != 3 || e != api.OK || d.At() != math.MinInt+127 {
		t.Errorf("%d, %d, to %d", r, e, d.At())
	}
}

// P4.7
func TestHitLimit(t *testing.T) {
	for num := range 4 {
		if got, e := rejecting(127).Hit(num, 3); got != (num > 1) || e != api.OK {
			t.Errorf("Hit(%d, 3) = %t, %d for a roll of 1", num, got, e)
		}
		d := rejecting(128)
		if got, e := d.Hit(num, 3); got || e != api.ErrLimit || d.At() != 128 {
			t.Errorf("Hit(%d, 3) = %t, %d, to %d", num, got, e, d.At())
		}
	}
}

// P4.8
func TestPickLimit(t *testing.T) {
	for _, weights := range [][]int{{3}, {1, 1, 1}, {0, 3}, {0, 0, 2, 1}} {
		d := rejecting(128)
		if got, e := d.Pick(weights); got != 0 || e != api.ErrLimit || d.At() != 128 {
			t.Errorf("Pick(%v) = %d, %d, to %d", weights, got, e, d.At())
		}
	}
	if got, e := rejecting(127).Pick([]int{1, 0, 1, 1}); got != 2 || e != api.OK {
		t.Errorf("Pick for a roll of 1: %d, %d", got, e)
	}
}

// P4.9: the rolls of 4 and of 2 results accept every word, that of 3 does not.
func TestShuffleLimit(t *testing.T) {
	for n := 3; n <= 4; n++ {
		d, taken := rejecting(200), 128+n-3
		if got, e := d.Shuffle(n); got != nil || e != api.ErrLimit || d.At() != taken {
			t.Errorf("Shuffle(%d) = %v, %d, to %d", n, got, e, d.At())
		}
	}
	d := rejecting(200)
	if got, e := d.Shuffle(2); len(got) != 2 || e != api.OK || d.At() != 1 {
		t.Errorf("Shuffle(2) = %v, %d, to %d", got, e, d.At())
	}
}
