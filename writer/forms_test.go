package writer_test

import (
	"fmt"
	"math"
	"strings"
	"testing"

	"satchel/api"
)

// P17.2, P17.5: each form with each kind: one record, of a File with its data behind it.
func TestKinds(t *testing.T) {
	letters := map[int]string{api.File: "0", api.HardLink: "1", api.Symlink: "2", api.Dir: "5"}
	for _, form := range forms {
		s := api.Style{Form: form}
		for kind, letter := range letters {
			if b := putting(t, bare(kind), s, 512, api.OK); b[156:157] != letter {
				t.Errorf("form %d, kind %d: %q", form, kind, b[156])
			}
		}
		for _, letter := range []byte("346") {
			x := bare(api.Device)
			x.Entry.Type = letter
			if b := putting(t, x, s, 512, api.OK); b[156] != letter {
				t.Errorf("form %d: %q, not %q", form, b[156], letter)
			}
		}
		for _, n := range []int{0, 1, 511, 512, 513, 1023, 1024, 1025, 5000} {
			data := strings.Repeat("d", n)
			b := putting(t, file("f", data), s, 512+(n+511)/512*512, api.OK)
			if b[512:] != filled(data) {
				t.Errorf("form %d, %d bytes: %q", form, n, b[512:])
			}
		}
	}
}

// P17.5: as many bytes as there can be, in each form, with and without holes.
func TestMostBytes(t *testing.T) {
	x := file("f", "")
	x.Data, x.Entry.Size = make([]byte, api.MaxBlock), api.MaxBlock
	for i := range x.Data {
		x.Data[i] = byte(1 + i%255)
	}
	for _, form := range forms {
		putting(t, x, api.Style{Form: form}, 512+api.MaxBlock, api.OK)
	}
	for _, form := range []int{api.GNU, api.Pax} {
		putting(t, x, api.Style{Form: form, Holes: 1}, 512+api.MaxBlock, api.OK)
	}
	clear(x.Data[1000 : api.MaxBlock-1000])
	putting(t, x, api.Style{Form: api.GNU, Holes: 512}, 512+2048, api.OK)
	putting(t, x, api.Style{Form: api.Pax, Holes: 512}, 1024+512+512+2048, api.OK)
}

// P17.2, P17.4: names about the field's length, with a slash at each place or with none.
func TestNames(t *testing.T) {
	lengths := []int{1, 2, 99, 100, 101, 102, 150, 154, 155, 156, 157, 158, 200, 254, 255, 256, 257, 258, 300, 356}
	for _, n := range lengths {
		flat := strings.Repeat("n", n)
		if n <= 255 {
			heldName(t, flat)
		}
		for at := 1; at < n-1; at++ {
			if at <= 255 && n-at-1 <= 255 {
				heldName(t, flat[:at]+"/"+flat[at+1:])
			}
		}
	}
	for n := 95; n < 265; n++ { // slashes everywhere
		name := strings.Repeat("d/", n)[:n]
		heldName(t, strings.TrimSuffix(name, "/"))
	}
}

// heldName holds an entry of that name to the model in each form, and to which forms have room for it.
func heldName(t *testing.T, name string) {
	t.Helper()
	_, _, cut := modelCut(name)
	x := file(name, "data")
	y := bare(api.Dir)
	y.Entry.Name = name
	for _, form := range forms {
		fits := form >= api.GNU || form == api.V7 && len(name) <= 100 || form == api.Ustar && cut
		for _, z := range []api.Packed{x, y} {
			b, why := held(t, z, api.Style{Form: form})
			if fits != (why == api.OK) || !fits && why != api.ErrFits {
				t.Fatalf("form %d, %q: %d", form, name, why)
			}
			own := 512 + len(filled(string(z.Data)))
			ahead := form == api.GNU && len(name) > 100 || form == api.Pax && !cut
			if fits && ahead != (len(b) > own) {
				t.Fatalf("form %d, %q: %d bytes", form, name, len(b))
			}
		}
	}
}

// P17.2, P17.4: what stands ahead of a name and a link that are too long, and what the header then has.
func TestLongAhead(t *testing.T) {
	name := strings.Repeat("n", 100) + "tail"
	link := strings.Repeat("l", 100) + strings.Repeat("tail", 120)
	x := bare(api.Symlink)
	x.Entry.Name, x.Entry.Link = name, link
	head := func(b string, at int, text string, letter byte, size string) {
		t.Helper()
		if b[at:at+len(text)+1] != text+"\x00" || b[at+156] != letter || b[at+124:at+136] != size+"\x00" {
			t.Errorf("at %d: %q", at, b[at:at+512])
		}
	}
	b := putting(t, x, api.Style{Form: api.GNU}, 512+512+512+1024+512, api.OK)
	head(b, 0, "././@LongLink", 'L', "00000000151")
	head(b, 1024, "././@LongLink", 'K', "00000001105")
	for _, at := range []int{0, 1024} {
		if b[at+100:at+124] != strings.Repeat("0000000\x00", 3) || b[at+136:at+148] != "00000000000\x00" || b[at+157:at+265] != zeros(100)+"ustar  \x00" || b[at+265:at+329] != zeros(64) {
			t.Errorf("at %d: %q", at, b[at:at+512])
		}
	}
	if b[512:1024] != filled(name+"\x00") || b[1536:2560] != filled(link+"\x00") {
		t.Errorf("%q", b)
	}
	if b[2560:2660] != name[:100] || b[2560+157:2560+257] != link[:100] || b[2560+156] != '2' {
		t.Errorf("%q", b[2560:])
	}

	b = putting(t, x, api.Style{Form: api.Pax}, 512+1024+512, api.OK)
	head(b, 0, "@PaxHeader", 'x', fmt.Sprintf("%011o", 594+114))
	if b[100:108] != "0000644\x00" || b[108:124] != strings.Repeat("0000000\x00", 2) || b[136:148] != "00000000000\x00" || b[257:265] != "ustar\x0000" {
		t.Errorf("%q", b[:512])
	}
	if b[512:1536] != filled("594 linkpath="+link+"\n114 path="+name+"\n") {
		t.Errorf("%q", b[512:1536])
	}
	if b[1536:1636] != name[:100] || b[1536+157:1536+257] != link[:100] || b[1536+345:1536+500] != zeros(155) {
		t.Errorf("%q", b[1536:])
	}
	for _, form := range []int{api.V7, api.Ustar} {
		putting(t, x, api.Style{Form: form}, 0, api.ErrFits)
	}
}

// P17.2, P17.3: links of both sorts, at and beyond the field's length, with short names and long ones.
func TestLinks(t *testing.T) {
	for _, kind := range []int{api.Symlink, api.HardLink} {
		for _, n := range []int{1, 50, 99, 100, 101, 102, 255, 256, 511, 512, 513, 1023, 1024, 4095, 4096} {
			for _, name := range []string{"n", strings.Repeat("n", 100), strings.Repeat("n", 101), strings.Repeat("d/", 100) + "n"} {
				x := bare(kind)
				x.Entry.Name, x.Entry.Link = name, strings.Repeat("l", n)
				for _, form := range forms {
					_, why := held(t, x, api.Style{Form: form})
					if form >= api.GNU && why != api.OK || form == api.Ustar && len(name) != 101 && (why == api.OK) != (n <= 100) {
						t.Errorf("form %d, %d bytes: %d", form, n, why)
					}
				}
			}
		}
	}
}

// P17.2, P17.3: names of users and groups, at and beyond the field's length, in each form.
func TestOwners(t *testing.T) {
	for _, n := range []int{0, 1, 31, 32, 33, 34, 64, 100, 4095, 4096} {
		for _, m := range []int{0, 1, 31, 32, 33, 34, 64, 100, 4095, 4096} {
			for _, form := range forms {
				x := file("f", "data")
				x.Entry.User, x.Entry.Group = strings.Repeat("u", n), strings.Repeat("g", m)
				want := api.OK
				if form == api.V7 && max(n, m) > 0 || form != api.Pax && max(n, m) > 32 {
					want = api.ErrFits
				}
				if _, why := held(t, x, api.Style{Form: form}); why != want {
					t.Errorf("form %d, %d and %d bytes: %d", form, n, m, why)
				}
			}
		}
	}
}

// P17.2, P17.3: numbers of users and groups, at and beyond what octal digits hold, in each form.
func TestNumbers(t *testing.T) {
	numbers := []uint32{0, 1, 7, 8, 0o777777, 2097150, 2097151, 2097152, 1 << 24, math.MaxInt32, 1 << 31, math.MaxUint32 - 1, math.MaxUint32}
	for _, uid := range numbers {
		for _, gid := range numbers {
			for _, form := range forms {
				x := file("f", "data")
				x.Entry.Meta.Uid, x.Entry.Meta.Gid = uid, gid
				want := api.OK
				if form < api.GNU && max(uid, gid) > 2097151 {
					want = api.ErrFits
				}
				b, why := held(t, x, api.Style{Form: form})
				if why != want {
					t.Errorf("form %d, %d and %d: %d", form, uid, gid, why)
				}
				if form != api.GNU && why == api.OK && len(b) != 1024 != (max(uid, gid) > 2097151) {
					t.Errorf("form %d, %d and %d: %d bytes", form, uid, gid, len(b))
				}
			}
		}
	}
}

// P17.2 to P17.4: times and nanoseconds, at and beyond what octal digits hold, and below 0, in each form.
func TestTimes(t *testing.T) {
	times := []int64{0, 1, -1, -2, 8589934590, 8589934591, 8589934592, -8589934592, 1 << 62, math.MaxInt64 - 1, math.MaxInt64, -1 << 62, math.MinInt64 + 2, math.MinInt64 + 1}
	for _, seconds := range times {
		for _, nano := range []int32{0, 1, 5, 10, 100000000, 500000000, 999999990, 999999999} {
			x := file("f", "data")
			x.Entry.Meta.Time, x.Entry.Meta.Nano = seconds, nano
			octal := seconds >= 0 && seconds <= 8589934591
			for _, form := range forms {
				want := api.OK
				if form != api.Pax && nano != 0 || form < api.GNU && !octal {
					want = api.ErrFits
				}
				b, why := held(t, x, api.Style{Form: form})
				if why != want {
					t.Errorf("form %d, %d and %d: %d", form, seconds, nano, why)
				}
				if form == api.Pax && (len(b) == 1024) != (octal && nano == 0) {
					t.Errorf("%d and %d: %d bytes", seconds, nano, len(b))
				}
			}
		}
	}
}

// P17.3: the texts of times.
func TestTimeTexts(t *testing.T) {
	for _, x := range []struct {
		seconds int64
		nano    int32
		want    string
	}{
		{0, 5, "0.000000005"},
		{1, 500000000, "1.5"},
		{-1, 0, "-1"},
		{-1, 500000000, "-0.5"},
		{-2, 500000000, "-1.5"},
		{8589934591, 1, "8589934591.000000001"},
		{8589934592, 0, "8589934592"},
		{math.MaxInt64, 999999999, "9223372036854775807.999999999"},
		{math.MinInt64 + 1, 0, "-9223372036854775807"},
		{math.MinInt64 + 1, 999999999, "-9223372036854775806.000000001"},
	} {
		y := bare(api.Dir)
		y.Entry.Meta.Time, y.Entry.Meta.Nano = x.seconds, x.nano
		pairing(t, y, api.Style{Form: api.Pax}, "mtime", x.want)
	}
}

// P17.2: things that do not fit, two at once, are ErrFits alone; of what a form has a way for nothing is refused.
func TestTwoDoNotFit(t *testing.T) {
	changes := []struct {
		most   int // the greatest form that has no room
		field  string
		change func(*api.Packed)
	}{
		{api.GNU, "nano", func(x *api.Packed) { x.Entry.Meta.Nano = 1 }},
		{api.V7, "user", func(x *api.Packed) { x.Entry.User = "u" }},
		{api.V7, "group", func(x *api.Packed) { x.Entry.Group = "g" }},
		{api.GNU, "user", func(x *api.Packed) { x.Entry.User = strings.Repeat("u", 33) }},
		{api.GNU, "group", func(x *api.Packed) { x.Entry.Group = strings.Repeat("g", 33) }},
		{api.Ustar, "name", func(x *api.Packed) { x.Entry.Name = strings.Repeat("n", 101) }},
		{api.V7, "name", func(x *api.Packed) { x.Entry.Name = strings.Repeat("d/", 50) + "n" }},
		{api.Ustar, "link", func(x *api.Packed) { x.Entry.Link = strings.Repeat("l", 101) }},
		{api.Ustar, "uid", func(x *api.Packed) { x.Entry.Meta.Uid = 2097152 }},
		{api.Ustar, "gid", func(x *api.Packed) { x.Entry.Meta.Gid = 2097152 }},
		{api.Ustar, "time", func(x *api.Packed) { x.Entry.Meta.Time = -1 }},
		{api.Ustar, "time", func(x *api.Packed) { x.Entry.Meta.Time = 8589934592 }},
	}
	for i, f := range changes {
		for j, g := range changes {
			if i != j && f.field == g.field {
				continue
			}
			for _, form := range forms {
				x := bare(api.Symlink)
				f.change(&x)
				g.change(&x)
				want := api.OK
				if form <= max(f.most, g.most) {
					want = api.ErrFits
				}
				if _, why := held(t, x, api.Style{Form: form}); why != want {
					t.Errorf("form %d, %s and %s: %d, not %d", form, f.field, g.field, why, want)
				}
			}
		}
	}
}
