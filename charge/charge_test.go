package charge_test

import (
	"math"
	"math/big"
	"slices"
	"testing"

	"kintsugi/api"
	"kintsugi/charge"
	"kintsugi/inode"
)

// P16.1 to P16.3: the chapter's examples.
func TestExamples(t *testing.T) {
	for _, x := range []struct {
		l            []charge.Object
		takes, price int
	}{
		{nil, 2, 20},
		{[]charge.Object{}, 2, 20},
		{[]charge.Object{object(1, inode.Dir)}, 8, 24},
		{[]charge.Object{object(1, inode.Dir, 0), object(2, inode.File, 0, 9)}, 22, 38},
	} {
		if n := charge.Takes(x.l); n != x.takes {
			t.Errorf("Takes of %v: %d, want %d", x.l, n, x.takes)
		}
		if n := charge.Of(x.l).Charge(); n != x.price {
			t.Errorf("the charge of %v: %d, want %d", x.l, n, x.price)
		}
	}
}

// P16.1, P16.2: one object of each number and kind; those that there are not are nothing, with leaves and without.
func TestEachNumberAndKind(t *testing.T) {
	for _, num := range []uint16{0, 1, 2, 3, 4, 31, 32, 128, 252, 254, 255, 256, 257, 511, 512, 1 << 15, math.MaxUint16} {
		for kind := range 256 {
			bare, one := 2, 2
			var bareTally, oneTally charge.Tally
			if num >= 1 && num <= 255 && kind >= 1 && kind <= 3 {
				bare, one = 8, 14
				bareTally, oneTally = charge.Tally{Objects: 1}, charge.Tally{Metas: 1, Objects: 1}
				if kind == 1 {
					one, oneTally = 13, charge.Tally{Files: 1, Objects: 1}
				}
			}
			counted(t, []charge.Object{object(num, uint8(kind))}, bare, bareTally)
			counted(t, []charge.Object{object(num, uint8(kind), 5)}, one, oneTally)
		}
	}
	for num := range 600 {
		tallied(t, []charge.Object{object(uint16(num), 1, 1), object(uint16(num+300), 2)})
	}
}

// P16.1, P16.2: each offset, alone and with each other one; those that are no leaf's are nothing.
func TestEachOffset(t *testing.T) {
	offs := append(every(), 64, 65, 127, 128, 256, 320, 1<<16, 1<<31, math.MaxUint32)
	for _, kind := range kinds {
		for _, a := range offs {
			tallied(t, []charge.Object{object(7, kind, a)})
			for _, b := range offs {
				tallied(t, []charge.Object{object(7, kind, a, b)})
			}
		}
	}
	counted(t, []charge.Object{object(7, 1, 63)}, 8+1+2+2, charge.Tally{Files: 1, Objects: 1})
	counted(t, []charge.Object{object(7, 1, 64)}, 8, charge.Tally{Objects: 1})
	counted(t, []charge.Object{object(7, 2, 0, 7)}, 8+2*2+2+2, charge.Tally{Metas: 2, Objects: 1})
	counted(t, []charge.Object{object(7, 2, 7, 8)}, 8+2*2+2*2+2, charge.Tally{Metas: 2, Objects: 1})
	counted(t, []charge.Object{object(7, 3, every()...)}, 8+64*2+8*2+2, charge.Tally{Metas: 64, Objects: 1})
	counted(t, []charge.Object{object(7, 1, every()...)}, 8+64+8*2+2, charge.Tally{Files: 64, Objects: 1})
}

// P16.1, P16.2: each two numbers, in one table block, under one node of the table, or apart.
func TestEachTwoNumbers(t *testing.T) {
	for a := uint16(1); a <= 255; a++ {
		for b := uint16(1); b <= 255; b++ {
			takes := 2 + 2*3
			if a/4 != b/4 {
				takes += 2
			}
			if a/32 != b/32 {
				takes += 2
			}
			want := charge.Tally{Objects: 2}
			if a == b {
				want.Objects = 1
			}
			counted(t, []charge.Object{object(a, 1), object(b, 3)}, takes, want)
		}
	}
}

// P16.1, P16.2, P16.4: all numbers, with no leaves and with all.
func TestAllOfThem(t *testing.T) {
	for _, kind := range kinds {
		var bare, full []charge.Object
		for num := uint16(1); num <= 255; num++ {
			bare, full = append(bare, object(num, kind)), append(full, object(num, kind, every()...))
		}
		table := 2 + 2 + 8*2 + 64*2
		counted(t, bare, table, charge.Tally{Objects: 255})
		if kind == 1 {
			counted(t, full, table+255*(2+8*2+64), charge.Tally{Files: 255 * 64, Objects: 255})
		} else {
			counted(t, full, table+255*(2+8*2+64*2), charge.Tally{Metas: 255 * 64, Objects: 255})
		}
	}
}

// P16.1, P16.2: what is none's changes nothing, wherever in a list it stands.
func TestPassedOver(t *testing.T) {
	whole := []charge.Object{object(1, 2, 0, 1), object(2, 1, 3, 9, 63), object(9, 3), object(255, 3, 0)}
	takes, tally := plainTakes(whole), plainOf(whole)
	counted(t, whole, takes, tally)
	for _, none := range []charge.Object{
		object(0, 1), object(0, 2, 0, 8), object(256, 1, 1), object(257, 2), object(512, 3, 9), object(math.MaxUint16, 1, every()...),
		object(5, 0), object(5, 0, 1), object(5, 4, 0, 8, 16), object(100, 5), object(100, 8, 2), object(100, 255, every()...),
		object(0, 0, 0), object(256, 4, 0),
	} {
		for i := range len(whole) + 1 {
			counted(t, slices.Insert(slices.Clone(whole), i, none), takes, tally)
		}
	}
	for i, o := range whole {
		for _, off := range []uint32{64, 65, 128, 1 << 8, 1 << 16, 1 << 31, math.MaxUint32} {
			for j := range len(o.Offs) + 1 {
				l := slices.Clone(whole)
				l[i].Offs = slices.Insert(slices.Clone(o.Offs), j, off)
				counted(t, l, takes, tally)
			}
		}
	}
}

// P16.1, P16.2: offsets that come again are counted once; of a number that comes again the first object is all.
func TestComeAgain(t *testing.T) {
	counted(t, []charge.Object{object(3, 1, 5, 5, 5, 64, 5)}, 8+1+2+2, charge.Tally{Files: 1, Objects: 1})
	counted(t, []charge.Object{object(3, 2, 5, 6, 5, 6)}, 8+2*2+2+2, charge.Tally{Metas: 2, Objects: 1})
	again := []charge.Object{object(3, 1), object(3, 1, 7), object(3, 2, 7, 8), object(3, 3, every()...), object(3, 0, 1), object(3, 9)}
	for _, first := range []charge.Object{object(3, 1), object(3, 1, 7), object(3, 2), object(3, 3, 0, 63)} {
		takes, tally := plainTakes([]charge.Object{first}), plainOf([]charge.Object{first})
		for _, o := range again {
			counted(t, []charge.Object{first, o}, takes, tally)
			counted(t, []charge.Object{first, o, first, o}, takes, tally)
			counted(t, append([]charge.Object{first}, again...), takes, tally)
			// Another object between them takes only a place in the same table block.
			counted(t, []charge.Object{first, object(1, 1), o}, takes, tally.With(0, 0, 1))
		}
	}
}

// P16.1, P16.2: what is no object as its kind is none does not take its number from one that comes behind it.
func TestNoneTakesNoNumber(t *testing.T) {
	counted(t, []charge.Object{object(3, 0, 1), object(3, 4, 2), object(3, 255), object(3, 1, 9)}, 8+1+2+2, charge.Tally{Files: 1, Objects: 1})
	// Numbers that are alike in their lowest byte are not alike.
	counted(t, []charge.Object{object(259, 1, 1), object(3, 2)}, 8, charge.Tally{Objects: 1})
}

// P16.1, P16.2, P16.4: drawn lists, right ones and wrong ones, held against the plain words.
func TestDrawn(t *testing.T) {
	for seed := range uint32(300) {
		draw := draws(seed)
		tallied(t, drawn(draw, false))
		tallied(t, drawn(draw, true))
	}
}

// P16.1, P16.4: objects take what the blocks do that the tree, the table and the top are made of.
func TestMadeBlocks(t *testing.T) {
	for seed := range uint32(20) {
		draw := draws(seed)
		y := newSystem(t)
		y.taken(t)
		greatest := 1 + draw(255)
		for range 60 {
			num := uint16(1 + draw(greatest))
			_, there := y.kinds[num]
			switch {
			case !there:
				y.make(t, num, kinds[draw(3)])
			case draw(6) == 0:
				y.drop(t, num)
			default:
				offs := drawnOffs(draw, false)
				slices.Sort(offs)
				y.leaves(t, num, draw(4) > 0, offs...)
			}
			y.taken(t)
		}
		for _, o := range y.objects(t) {
			y.drop(t, o.Num)
			y.taken(t)
		}
		if n := y.s.used; n != [2]int{2, 2} {
			t.Errorf("without objects %v are used", n)
		}
	}
}

// P16.2: each kind has its leaves more, or less, and the objects; one that is none has objects alone; the tally itself stays.
func TestWith(t *testing.T) {
	for kind := range 256 {
		for _, was := range []charge.Tally{{}, {Files: 5, Metas: 6, Objects: 7}, {Files: -1, Metas: -2, Objects: -3}} {
			for _, leaves := range []int{0, 1, 7, -1, -9, 1 << 40, -1 << 40} {
				for _, objects := range []int{0, 1, 3, -1, -8, 1 << 41, -1 << 41} {
					kept, want := was, was
					want.Objects += objects
					switch kind {
					case 1:
						want.Files += leaves
					case 2, 3:
						want.Metas += leaves
					}
					if got := was.With(uint8(kind), leaves, objects); got != want || was != kept {
						t.Errorf("%v with %d of kind %d, and %d: %v, want %v", was, leaves, kind, objects, got, want)
					}
				}
			}
		}
	}
}

// P16.2: an object more is that of the list with it; less, it is that of the list without it.
func TestWithAndOf(t *testing.T) {
	for seed := range uint32(40) {
		l := drawn(draws(seed), false)
		var sum charge.Tally
		for i, o := range l {
			if got := charge.Of(l[:i]); got != sum {
				t.Fatalf("Of %v: %v, want %v", l[:i], got, sum)
			}
			sum = sum.With(o.Kind, len(o.Offs), 1)
		}
		for i, o := range slices.Backward(l) {
			sum = sum.With(o.Kind, -len(o.Offs), -1)
			if got := charge.Of(l[:i]); got != sum {
				t.Fatalf("Of %v: %v, want %v", l[:i], got, sum)
			}
		}
	}
}

// P16.2, R7: what would be past the ints does not go round.
func TestWithDoesNotGoRound(t *testing.T) {
	most := charge.Tally{Files: math.MaxInt, Metas: math.MaxInt, Objects: math.MaxInt}
	least := charge.Tally{Files: math.MinInt, Metas: math.MinInt, Objects: math.MinInt}
	for _, kind := range kinds {
		for _, n := range []int{0, 1, 2, 1 << 32, math.MaxInt} {
			if got := most.With(kind, n, n); got != most {
				t.Errorf("most with %d of kind %d: %v", n, kind, got)
			}
			if got := least.With(kind, -n, -n); got != least {
				t.Errorf("least with %d of kind %d: %v", -n, kind, got)
			}
		}
		if got := most.With(kind, math.MinInt, math.MinInt).With(kind, 1, 1).With(kind, math.MaxInt, math.MaxInt); got != most {
			t.Errorf("there and back, of kind %d: %v", kind, got)
		}
		if got := least.With(kind, math.MinInt, math.MinInt); got != least {
			t.Errorf("least with the least of kind %d: %v", kind, got)
		}
	}
}

// P16.3: 3 for each leaf of a file, 4 for each other one, 4 for each object, and 20.
func TestCharge(t *testing.T) {
	for files := range 30 {
		for metas := range 30 {
			for objects := range 30 {
				x := charge.Tally{Files: files, Metas: metas, Objects: objects}
				if n := x.Charge(); n != 3*files+4*metas+4*objects+20 {
					t.Errorf("the charge of %v: %d", x, n)
				}
			}
		}
	}
	for x, want := range map[charge.Tally]int{
		{}:            20,
		{Files: 1}:    23,
		{Metas: 1}:    24,
		{Objects: 1}:  24,
		{Files: -1}:   17,
		{Metas: -9}:   -16,
		{Objects: -9}: -16,
	} {
		if n := x.Charge(); n != want {
			t.Errorf("the charge of %v: %d, want %d", x, n, want)
		}
	}
}

// great are ints at the edges.
func great() []int {
	l := []int{0, 1, 4095, math.MaxUint32, 1 << 32, 1<<61 - 5, 1 << 61, math.MaxInt/3 - 6, math.MaxInt/3 - 7, math.MaxInt / 4, math.MaxInt - 1, math.MaxInt}
	for _, n := range l {
		l = append(l, -n, -n-1)
	}
	return l
}

// P16.3, R7: a charge is exact, however great the parts are; one that is past the ints is the nearest of them.
func TestChargeOfGreatTallies(t *testing.T) {
	for _, files := range great() {
		for _, metas := range great() {
			for _, objects := range great() {
				x := charge.Tally{Files: files, Metas: metas, Objects: objects}
				if n, want := x.Charge(), near(plainCharge(x)); n != want {
					t.Fatalf("the charge of %v: %d, want %d", x, n, want)
				}
			}
		}
	}
}

// P16.3: a tally fits from its charge, Reserve and 1 on, and not below.
func TestFits(t *testing.T) {
	for _, x := range []charge.Tally{{}, {Files: 1}, {Metas: 1}, {Objects: 1}, {Files: 5, Metas: 2, Objects: 4}, {Files: 64 * 255, Objects: 255}, {Files: -100}, {Objects: -1000}} {
		least := x.Charge() + api.Reserve + 1
		for d := range 50 {
			if !x.Fits(least + d) {
				t.Errorf("%v does not fit %d", x, least+d)
			}
			if x.Fits(least - 1 - d) {
				t.Errorf("%v fits %d", x, least-1-d)
			}
		}
	}
	// Of the least disks, and the greatest.
	if x := (charge.Tally{Files: 1, Objects: 42}); x.Charge() != 191 || !x.Fits(api.MinBlocks) || x.With(inode.File, 1, 0).Fits(api.MinBlocks) {
		t.Errorf("%v of %d blocks", x, api.MinBlocks)
	}
	if x := (charge.Tally{Files: 1245, Objects: 5}); x.Charge() != 3775 || !x.Fits(api.MaxBlocks) || x.With(inode.File, 1, 0).Fits(api.MaxBlocks) {
		t.Errorf("%v of %d blocks", x, api.MaxBlocks)
	}
	for _, blocks := range []int{0, -1, 1, 320, 340, -4096, math.MinInt} {
		if (charge.Tally{}).Fits(blocks) {
			t.Errorf("none fits %d", blocks)
		}
	}
}

// P16.3, R7: so it is of great tallies and of great disks, and of those below 0.
func TestFitsOfGreatTallies(t *testing.T) {
	for _, files := range great() {
		for _, objects := range great() {
			x := charge.Tally{Files: files, Metas: -files / 2, Objects: objects}
			edge := near(new(big.Int).Add(plainCharge(x), big.NewInt(321)))
			for _, blocks := range append(great(), edge, edge-1, edge-2, math.MinInt, math.MinInt+1) {
				if got := x.Fits(blocks); got != plainFits(x, blocks) {
					t.Fatalf("%v fits %d: %v", x, blocks, got)
				}
			}
		}
	}
}

// P16.4: where each leaf is alone below its node, each number in its table block, and all nodes of the table are there, the charge is all taken; an object more does not pass it.
func TestChargeIsTight(t *testing.T) {
	var l []charge.Object
	for block := range uint16(64) {
		l = append(l, object(4*block+3, kinds[block%3], 1, 9, 17, 25, 33, 41, 49, 57))
	}
	if n, price := charge.Takes(l), charge.Of(l).Charge(); n != price {
		t.Errorf("they take %d, the charge is %d", n, price)
	}
	for num := uint16(1); num <= 255; num++ {
		more := append(slices.Clone(l), object(num, 2, 2))
		if n, price := charge.Takes(more), charge.Of(more).Charge(); n > price {
			t.Errorf("with %d they take %d, the charge is %d", num, n, price)
		}
	}
}

// R2, R3: what is handed in stays as it is, the room behind it too, and nothing is kept of it.
func TestHandedIn(t *testing.T) {
	offs := []uint32{9, 1, 70, 1, 5, 5, 5, 5}
	room := []charge.Object{object(4, 1, offs[:4]...), object(2, 2), object(4, 3, 1), object(0, 1), object(8, 1, 3)}
	l := room[:4]
	l[0].Offs = offs[:4]
	for range 3 {
		counted(t, l, 18, charge.Tally{Files: 2, Objects: 2})
	}
	if !slices.Equal(offs, []uint32{9, 1, 70, 1, 5, 5, 5, 5}) {
		t.Errorf("offsets are %v", offs)
	}
	for i, want := range []charge.Object{object(4, 1, 9, 1, 70, 1), object(2, 2), object(4, 3, 1), object(0, 1), object(8, 1, 3)} {
		if o := room[i]; o.Num != want.Num || o.Kind != want.Kind || !slices.Equal(o.Offs, want.Offs) {
			t.Errorf("object %d is %v, want %v", i, o, want)
		}
	}
	offs[0], l[1].Kind = 0, 9
	counted(t, l, 14, charge.Tally{Files: 2, Objects: 1})
}
