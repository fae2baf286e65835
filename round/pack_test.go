package round

import (
	"bytes"
	"fmt"
	"math"
	"math/big"
	"math/rand"
	"slices"
	"testing"
)

// bitOf is the bit number k of a list packed in bits, by the chapter's words.
func bitOf(list []int, bits, k int) byte {
	if k/bits >= len(list) {
		return 0
	}
	return byte(list[k/bits] >> (k % bits) & 1)
}

// slowPack is Pack, bit by bit.
func slowPack(list []int, bits int) []byte {
	var out []byte
	for at := 0; at < len(list)*bits; at += 8 {
		var x byte
		for k := range 8 {
			x |= bitOf(list, bits, at+k) << k
		}
		out = append(out, x)
	}
	return out
}

// slowUnpack is Unpack, out of one great number.
func slowUnpack(b []byte, bits int) []int {
	turned := slices.Clone(b)
	slices.Reverse(turned)
	all := new(big.Int).SetBytes(turned)
	mask := big.NewInt(1<<bits - 1)
	var out []int
	for range len(b) * 8 / bits {
		out = append(out, int(new(big.Int).And(all, mask).Int64()))
		all.Rsh(all, uint(bits))
	}
	return out
}

// drawn are so many numbers of so many bits, from a fixed seed.
func drawn(count, bits int) []int {
	r := rand.New(rand.NewSource(int64(count*100 + bits)))
	list := make([]int, count)
	for i := range list {
		list[i] = r.Intn(1 << bits)
	}
	return list
}

// roomy is a list with spare room that holds something.
func roomy[T any](list []T, fill T) []T {
	room := append(slices.Clone(list), slices.Repeat([]T{fill}, 9)...)
	return room[:len(list)]
}

// P4.2: Pack at the chapter's example, the widest and the narrowest numbers, and nothing at all.
func TestPackExamples(t *testing.T) {
	for _, c := range []struct {
		list []int
		bits int
		want []byte
	}{
		{[]int{1, 2, 3}, 3, []byte{0xd1, 0}},
		{[]int{0xabcdef, 1}, 24, []byte{0xef, 0xcd, 0xab, 1, 0, 0}},
		{[]int{1<<24 - 1}, 24, []byte{0xff, 0xff, 0xff}},
		{[]int{1, 0, 0, 0, 0, 0, 0, 1, 1}, 1, []byte{0x81, 1}},
		{[]int{1}, 1, []byte{1}},
		{[]int{0}, 1, []byte{0}},
		{[]int{0}, 9, []byte{0, 0}},
		{[]int{256, 1}, 9, []byte{0, 3, 0}},
		{[]int{1<<23 - 1, 1<<23 - 1}, 23, []byte{0xff, 0xff, 0xff, 0xff, 0xff, 0x3f}},
		{[]int{0x12, 0xff}, 8, []byte{0x12, 0xff}},
		{nil, 1, nil}, {nil, 24, nil}, {[]int{}, 7, nil},
	} {
		if got, ok := Pack(c.list, c.bits); !ok || !bytes.Equal(got, c.want) {
			t.Errorf("Pack(%v, %d) = %x, %v, want %x", c.list, c.bits, got, ok, c.want)
		}
	}
}

// P4.2: Pack as the chapter's words have it, at each width, and back.
func TestPackByTheWords(t *testing.T) {
	for bits := 1; bits <= 24; bits++ {
		for _, count := range []int{0, 1, 2, 3, 4, 5, 7, 8, 9, 31, 256, 257} {
			ones := slices.Repeat([]int{1<<bits - 1}, count)
			for _, list := range [][]int{drawn(count, bits), ones, make([]int, count)} {
				b, ok := Pack(list, bits)
				if want := slowPack(list, bits); !ok || !bytes.Equal(b, want) {
					t.Fatalf("Pack of %d numbers of %d bits: %x, %v, want %x", count, bits, b, ok, want)
				}
				back, ok := Unpack(b, bits)
				if !ok || len(back) < count || !slices.Equal(back[:count], list) {
					t.Fatalf("%d numbers of %d bits: %v, back %v, %v", count, bits, list, back, ok)
				}
			}
		}
	}
}

// P4.2: Pack refuses widths that may not be and numbers that are not within, wherever they stand.
func TestPackRefuses(t *testing.T) {
	for _, bits := range []int{math.MinInt, -64, -8, -1, 0, 25, 32, 64, 1 << 32, math.MaxInt} {
		for _, list := range [][]int{nil, {0}, {1, 2, 3}, {-1}} {
			if b, ok := Pack(list, bits); ok || len(b) != 0 {
				t.Errorf("Pack(%v, %d) = %x, %v", list, bits, b, ok)
			}
		}
	}
	for bits := 1; bits <= 24; bits++ {
		for _, n := range []int{-1, -(1 << bits), math.MinInt, math.MinInt32, 1 << bits, 1<<bits + 1, 1 << 24, 1 << 32, math.MaxInt} {
			for at := range 5 {
				list := make([]int, 5)
				list[at] = n
				if b, ok := Pack(list, bits); ok || len(b) != 0 {
					t.Errorf("Pack(%v, %d) = %x, %v", list, bits, b, ok)
				}
			}
		}
	}
}

// P4.2: Unpack tells the whole numbers there are; bits that are left over aren't looked at.
func TestUnpackExamples(t *testing.T) {
	for _, c := range []struct {
		b    []byte
		bits int
		want []int
	}{
		{[]byte{0xd1, 0}, 3, []int{1, 2, 3, 0, 0}},
		{[]byte{0xd1, 0xff}, 3, []int{1, 2, 7, 7, 7}},
		{[]byte{0xd1, 0x80}, 3, []int{1, 2, 3, 0, 0}},
		{[]byte{0xef, 0xcd, 0xab, 1, 0, 0}, 24, []int{0xabcdef, 1}},
		{[]byte{0xff, 0xff}, 24, nil}, {[]byte{0xff}, 9, nil},
		{[]byte{0xff, 0xff, 0xff, 0xff, 0xff}, 24, []int{1<<24 - 1}},
		{[]byte{0xff, 0xff, 0xff}, 23, []int{1<<23 - 1}},
		{[]byte{0x81}, 1, []int{1, 0, 0, 0, 0, 0, 0, 1}},
		{nil, 1, nil}, {nil, 24, nil}, {[]byte{}, 5, nil},
	} {
		if got, ok := Unpack(c.b, c.bits); !ok || !slices.Equal(got, c.want) {
			t.Errorf("Unpack(%x, %d) = %v, %v, want %v", c.b, c.bits, got, ok, c.want)
		}
	}
}

// P4.2: Unpack as the chapter's words have it, at each width and many lengths.
func TestUnpackByTheWords(t *testing.T) {
	r := rand.New(rand.NewSource(6))
	for bits := 1; bits <= 24; bits++ {
		for count := range 80 {
			b := make([]byte, count)
			r.Read(b)
			for _, b := range [][]byte{b, bytes.Repeat([]byte{0xff}, count)} {
				got, ok := Unpack(b, bits)
				if want := slowUnpack(b, bits); !ok || !slices.Equal(got, want) {
					t.Fatalf("Unpack(%x, %d) = %v, %v, want %v", b, bits, got, ok, want)
				}
			}
		}
	}
}

// P4.2: Unpack refuses widths that may not be.
func TestUnpackRefuses(t *testing.T) {
	for _, bits := range []int{math.MinInt, -64, -8, -1, 0, 25, 32, 64, 1 << 32, math.MaxInt} {
		for _, b := range [][]byte{nil, {1}, make([]byte, 100)} {
			if list, ok := Unpack(b, bits); ok || len(list) != 0 {
				t.Errorf("Unpack(%x, %d) = %v, %v", b, bits, list, ok)
			}
		}
	}
}

// P4.2: neither call changes or keeps what it is handed, and each answer is new memory.
func TestPackMemory(t *testing.T) {
	for _, bits := range []int{1, 3, 8, 13, 24} {
		list := roomy(drawn(33, bits), 77)
		whole := slices.Clone(list[:cap(list)])
		b, _ := Pack(list, bits)
		again, _ := Pack(list, bits)
		if !slices.Equal(list[:cap(list)], whole) {
			t.Fatal("Pack changed its list")
		}
		want := bytes.Clone(b)
		clear(again[:cap(again)])
		clear(list[:cap(list)])
		if !bytes.Equal(b, want) {
			t.Fatal("Pack's answer hangs on its list, or on another answer")
		}

		in := roomy(b, 99)
		wholeBytes := bytes.Clone(in[:cap(in)])
		one, _ := Unpack(in, bits)
		two, _ := Unpack(in, bits)
		if !bytes.Equal(in[:cap(in)], wholeBytes) {
			t.Fatal("Unpack changed its bytes")
		}
		clear(two[:cap(two)])
		clear(in[:cap(in)])
		if !slices.Equal(one[:33], whole[:33]) {
			t.Fatal("Unpack's answer hangs on its bytes, or on another answer")
		}
	}
}

// at is a list of 256 bools that is true at these places.
func at(places ...int) []bool {
	list := make([]bool, 256)
	for _, p := range places {
		list[p] = true
	}
	return list
}

// full is a list whose first n places are true.
func full(n int) []bool {
	list := make([]bool, 256)
	for i := range n {
		list[i] = true
	}
	return list
}

// slowHints is PackHints by the chapter's words.
func slowHints(lists [][]bool, most int) []byte {
	var places, counts []byte
	for _, list := range lists {
		for i, is := range list {
			if is {
				places = append(places, byte(i))
			}
		}
		counts = append(counts, byte(len(places)))
	}
	return append(append(places, make([]byte, most-len(places))...), counts...)
}

func sameHints(a, b [][]bool) bool {
	return slices.EqualFunc(a, b, func(x, y []bool) bool { return slices.Equal(x, y) })
}

// P4.3: PackHints at the chapter's example and the edges, and UnpackHints back.
func TestHintsExamples(t *testing.T) {
	all := make([]byte, 256)
	for i := range 255 {
		all[i] = byte(i)
	}
	all[255] = 255
	for _, c := range []struct {
		lists [][]bool
		most  int
		want  []byte
	}{
		{[][]bool{at(2, 7)}, 4, []byte{2, 7, 0, 0, 2}},
		{[][]bool{at(2, 7)}, 2, []byte{2, 7, 2}},
		{[][]bool{at(0, 255)}, 3, []byte{0, 255, 0, 2}},
		{[][]bool{at(0)}, 2, []byte{0, 0, 1}},
		{[][]bool{at()}, 2, []byte{0, 0, 0}},
		{[][]bool{at()}, 0, []byte{0}},
		{[][]bool{at(9), at(9)}, 2, []byte{9, 9, 1, 2}},
		{[][]bool{at(9, 10), at(), at(1)}, 4, []byte{9, 10, 1, 0, 2, 2, 3}},
		{[][]bool{at(), at(), at(3)}, 1, []byte{3, 0, 0, 1}},
		{[][]bool{full(255)}, 255, all},
		{nil, 0, nil}, {[][]bool{}, 3, []byte{0, 0, 0}}, {nil, 255, make([]byte, 255)},
		{slices.Repeat([][]bool{at()}, 16), 0, make([]byte, 16)},
	} {
		b, ok := PackHints(c.lists, c.most)
		if !ok || !bytes.Equal(b, c.want) {
			t.Errorf("PackHints, %d lists, most %d: %x, %v, want %x", len(c.lists), c.most, b, ok, c.want)
		}
		if back, ok := UnpackHints(c.want, len(c.lists), c.most); !ok || !sameHints(back, c.lists) {
			t.Errorf("UnpackHints(%x, %d, %d): %d lists, %v", c.want, len(c.lists), c.most, len(back), ok)
		}
	}
}

// P4.3: PackHints of lists that were drawn, as the chapter's words have it, and UnpackHints back;
// with one fewer than there are true it is refused.
func TestHintsByTheWords(t *testing.T) {
	r := rand.New(rand.NewSource(7))
	for round := range 2000 {
		lists := make([][]bool, r.Intn(17))
		found := 0
		for i := range lists {
			lists[i] = at()
			for range r.Intn(24 / (1 + round%3)) {
				p := r.Intn(256)
				if !lists[i][p] && found < 255 {
					lists[i][p] = true
					found++
				}
			}
		}
		most := found
		if round%2 == 0 {
			most += r.Intn(256 - found)
		}
		b, ok := PackHints(lists, most)
		if want := slowHints(lists, most); !ok || !bytes.Equal(b, want) {
			t.Fatalf("PackHints, most %d: %x, %v, want %x", most, b, ok, want)
		}
		if back, ok := UnpackHints(b, len(lists), most); !ok || !sameHints(back, lists) {
			t.Fatalf("UnpackHints(%x, %d, %d): %v", b, len(lists), most, ok)
		}
		if b, ok := PackHints(lists, found-1); ok || len(b) != 0 {
			t.Fatalf("PackHints, %d true, most %d: %x, %v", found, found-1, b, ok)
		}
	}
}

// P4.3: what PackHints refuses.
func TestPackHintsRefuses(t *testing.T) {
	spread := func(n int) [][]bool { return [][]bool{full(n / 2), full(n - n/2)} }
	for name, c := range map[string]struct {
		lists [][]bool
		most  int
	}{
		"most -1":                  {[][]bool{at()}, -1},
		"most -1, no lists":        {nil, -1},
		"most of the least":        {nil, math.MinInt},
		"most 256":                 {[][]bool{at()}, 256},
		"most 256, no lists":       {nil, 256},
		"most of the greatest":     {nil, math.MaxInt},
		"most -16 with 16 lists":   {slices.Repeat([][]bool{at()}, 16), -16},
		"17 lists":                 {slices.Repeat([][]bool{at()}, 17), 5},
		"255 bools":                {[][]bool{make([]bool, 255)}, 5},
		"257 bools":                {[][]bool{make([]bool, 257)}, 5},
		"512 bools":                {[][]bool{make([]bool, 512)}, 5},
		"255 bools with room":      {[][]bool{make([]bool, 255, 256)}, 5},
		"257 bools, the last true": {[][]bool{append(at(), true)}, 5},
		"a nil list":               {[][]bool{nil}, 5},
		"an empty list":            {[][]bool{{}}, 5},
		"the last has 255":         {[][]bool{at(1), at(2), make([]bool, 255)}, 5},
		"one more than 4":          {[][]bool{full(5)}, 4},
		"one more than 0":          {[][]bool{at(255)}, 0},
		"one more than 255":        {[][]bool{full(256)}, 255},
		"two lists, one more":      {[][]bool{at(1, 2), at(3, 4)}, 3},
		"256 in two lists":         {spread(256), 255},
		"300 in two lists":         {spread(300), 255},
		"512 in two lists":         {spread(512), 255},
	} {
		if b, ok := PackHints(c.lists, c.most); ok || len(b) != 0 {
			t.Errorf("%s: %x, %v", name, b, ok)
		}
	}
	if _, ok := PackHints(spread(255), 255); !ok {
		t.Error("255 in two lists are as many as may be")
	}
}

// P4.3: what UnpackHints refuses.
func TestUnpackHintsRefuses(t *testing.T) {
	for name, c := range map[string]struct {
		b           []byte
		lists, most int
	}{
		"a byte too short":              {[]byte{2, 7, 0, 0}, 1, 4},
		"a byte too long":               {[]byte{2, 7, 0, 0, 2, 0}, 1, 4},
		"no bytes":                      {nil, 1, 4},
		"no bytes, no lists":            {nil, 0, 1},
		"a byte for no lists":           {[]byte{0}, 0, 0},
		"room for what is missing":      {[]byte{2, 7, 0, 0, 2}[:4], 1, 4},
		"falling places":                {[]byte{7, 2, 0, 0, 2}, 1, 4},
		"a place twice":                 {[]byte{2, 2, 0, 0, 2}, 1, 4},
		"place 0 twice":                 {[]byte{0, 0, 0, 0, 2}, 1, 4},
		"a later place twice":           {[]byte{1, 2, 2, 0, 3}, 1, 4},
		"falling in the second list":    {[]byte{1, 5, 4, 0, 1, 3}, 2, 4},
		"a count that falls":            {[]byte{1, 2, 2, 1}, 2, 2},
		"a count that falls to 0":       {[]byte{1, 2, 1, 0}, 2, 2},
		"a count past most":             {[]byte{2, 7, 0, 0, 5}, 1, 4},
		"a first count past most":       {[]byte{1, 2, 3, 2}, 2, 2},
		"a last count past most":        {[]byte{1, 2, 1, 3}, 2, 2},
		"a count of 255":                {[]byte{1, 2, 255}, 1, 2},
		"a count past most 0":           {[]byte{1}, 1, 0},
		"a byte behind the last place":  {[]byte{2, 7, 1, 0, 2}, 1, 4},
		"a higher byte behind":          {[]byte{2, 7, 9, 0, 2}, 1, 4},
		"the last byte ahead of counts": {[]byte{2, 7, 0, 1, 2}, 1, 4},
		"a byte where none is true":     {[]byte{0, 0, 1, 0}, 1, 3},
		"a byte where there is no list": {[]byte{0, 1}, 0, 2},
		"17 lists":                      {make([]byte, 21), 17, 4},
		"-1 lists":                      {make([]byte, 3), -1, 4},
		"-4 lists":                      {nil, -4, 4},
		"the least lists":               {nil, math.MinInt, 4},
		"the greatest lists":            {nil, math.MaxInt, 4},
		"most -1":                       {nil, 1, -1},
		"most -1 with a byte":           {[]byte{0}, 2, -1},
		"most 256":                      {make([]byte, 257), 1, 256},
		"most 256, no lists":            {make([]byte, 256), 0, 256},
		"the least most":                {nil, 0, math.MinInt},
		"the greatest most":             {nil, 1, math.MaxInt},
	} {
		if lists, ok := UnpackHints(c.b, c.lists, c.most); ok || len(lists) != 0 {
			t.Errorf("%s: %d lists, %v", name, len(lists), ok)
		}
	}
}

// P4.3: UnpackHints takes what PackHints makes, and nothing else: each of the short bytes
// is either what comes of the lists that it tells, or is refused; none that comes of lists is left out.
func TestHintsOneForm(t *testing.T) {
	for _, c := range []struct{ lists, most, taken int }{
		// as many as there are ways to choose at most so many of all the lists' places
		{0, 1, 1}, {0, 2, 1}, {1, 1, 1 + 256}, {2, 1, 1 + 512}, {1, 2, 1 + 256 + 256*255/2},
	} {
		taken := 0
		var b [3]byte
		for n := range 1 << (8 * (c.lists + c.most)) {
			b[0], b[1], b[2] = byte(n), byte(n>>8), byte(n>>16)
			in := b[:c.lists+c.most]
			lists, ok := UnpackHints(in, c.lists, c.most)
			if !ok {
				continue
			}
			taken++
			if again, ok := PackHints(lists, c.most); !ok || !bytes.Equal(again, in) {
				t.Fatalf("UnpackHints(%x, %d, %d) took what is %x", in, c.lists, c.most, again)
			}
		}
		if taken != c.taken {
			t.Errorf("%d lists, most %d: took %d, want %d", c.lists, c.most, taken, c.taken)
		}
	}
}

// P1, P4.3: UnpackHints of bytes that were drawn, of all numbers, ends without a panic and tells one form.
func TestUnpackHintsOfAnything(t *testing.T) {
	r := rand.New(rand.NewSource(8))
	for range 20000 {
		lists, most := r.Intn(19)-1, r.Intn(12)-1
		b := make([]byte, max(0, lists+most+r.Intn(3)/2))
		for i := range b {
			b[i] = byte(r.Intn(12))
		}
		out, ok := UnpackHints(b, lists, most)
		if !ok && len(out) != 0 {
			t.Fatalf("UnpackHints(%x, %d, %d): lists beside false", b, lists, most)
		}
		if again, _ := PackHints(out, most); ok && !bytes.Equal(again, b) {
			t.Fatalf("UnpackHints(%x, %d, %d) took what is %x", b, lists, most, again)
		}
	}
}

// P4.3: neither call changes or keeps what it is handed; each answer is new memory, and no two lists share any.
func TestHintsMemory(t *testing.T) {
	lists := make([][]bool, 0, 5)
	for i := range 3 {
		lists = append(lists, roomy(at(i, i+100), true))
	}
	tail := roomy(at(9), true)
	lists[:4][3] = tail
	before := fmt.Sprint(lists[:5], lists[0][:cap(lists[0])], tail)
	b, _ := PackHints(lists, 8)
	other, _ := PackHints(lists, 8)
	if fmt.Sprint(lists[:5], lists[0][:cap(lists[0])], tail) != before {
		t.Fatal("PackHints changed its lists")
	}
	want := slowHints(lists, 8)
	clear(other[:cap(other)])
	clear(lists[0][:cap(lists[0])])
	if !bytes.Equal(b, want) {
		t.Fatal("PackHints' answer hangs on its lists, or on another answer")
	}

	in := roomy(b, 99)
	whole := bytes.Clone(in[:cap(in)])
	one, _ := UnpackHints(in, 3, 8)
	two, _ := UnpackHints(in, 3, 8)
	if !bytes.Equal(in[:cap(in)], whole) {
		t.Fatal("UnpackHints changed its bytes")
	}
	clear(in[:cap(in)])
	for _, list := range two {
		clear(list[:cap(list)])
	}
	clear(two[:cap(two)])
	if again, _ := PackHints(one, 8); !bytes.Equal(again, want) {
		t.Fatal("UnpackHints' answer hangs on its bytes, or on another answer")
	}
	for i := range one {
		clear(one[i][:cap(one[i])])
		for k := i + 1; k < len(one); k++ {
			if !slices.Equal(one[k], at(k, k+100)) {
				t.Fatal("lists of one answer share memory")
			}
		}
	}
}
