package header_test

import (
	"math"
	"math/rand"
	"strings"
	"testing"

	"satchel/api"
	"satchel/field"
	"satchel/header"
)

// P13.7: a byte turned outside of the sum's field, at each place into each other one, is refused unless the sum of signed bytes is the one that stands there.
func TestTurned(t *testing.T) {
	t.Parallel()
	chance := rand.New(rand.NewSource(13))
	var lot []api.Header
	for _, form := range forms {
		h := plain(form)
		lot = append(lot, h, api.Header{Form: form, Type: '0'})
		h.Name, h.Link = strings.Repeat("\xff", 100), strings.Repeat("\x80", 100)
		lot = append(lot, h)
	}
	lot = append(lot, api.Header{Form: api.GNU, Type: 'S', Time: math.MinInt64, Size: math.MaxInt64, Mode: 1<<62 - 1})
	for len(lot) < 16 {
		h := byChance(chance)
		if _, why := header.Encode(h); why == api.OK {
			lot = append(lot, h)
		}
	}
	for _, h := range lot {
		r, why := heldEncode(t, h)
		if why != api.OK {
			t.Fatalf("%+v: %d", h, why)
		}
		was, _ := field.Sums(r)
		for at := range r {
			for x := range 256 {
				other := r
				other[at] = byte(x)
				if at >= 148 && at < 156 || other == r {
					continue
				}
				got, place, why := header.Decode(other)
				_, signed := field.Sums(other)
				if signed != was && (got != (api.Header{}) || place != 148 || why != api.ErrSum) {
					t.Fatalf("%+v, %d at %d: %+v %d %d", h, x, at, got, place, why)
				}
			}
		}
	}
}

// P13.1, P13.7: a byte turned within the sum's field is refused, unless the field still says the sum.
func TestTurnedSum(t *testing.T) {
	for _, form := range forms {
		r := record(t, form)
		taken := 0
		for at := 148; at < 156; at++ {
			for x := range 256 {
				other := r
				other[at] = byte(x)
				if _, _, why := heldDecode(t, other); why == api.OK {
					taken++
				}
			}
		}
		if taken < 8 || taken > 30 {
			t.Errorf("form %d: %d are taken", form, taken)
		}
	}
}
