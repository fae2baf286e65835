package name

import (
	"math"
	"math/rand"
	"testing"
	"time"

	"chancery/api"
	"chancery/der"
)

func checkTime(t *testing.T, v der.Value) api.Errno {
	t.Helper()
	n, e := Time(v)
	want, wantE := slowTime(v)
	if n != want || e != wantE {
		t.Fatalf("%d %q: %d, %d, not %d, %d", v.Tag, v.Bytes, n, e, want, wantE)
	}
	return e
}

// checkTimeValue holds a time's value against the library's, and reads it again.
func checkTimeValue(t *testing.T, at int) {
	t.Helper()
	v, e := TimeValue(at)
	want, wantE := slowTimeValue(at)
	if !same(v, want) || e != wantE {
		t.Fatalf("%d: %d %q, %d, not %q, %d", at, v.Tag, v.Bytes, e, want.Bytes, wantE)
	}
	if e != api.OK {
		return
	}
	if back, f := Time(v); back != at || f != api.OK || !writable(v) {
		t.Fatalf("%d is %q, which is %d, %d", at, v.Bytes, back, f)
	}
}

func short(s string) der.Value { return der.Value{Tag: 23, Bytes: []byte(s)} }

func long(s string) der.Value { return der.Value{Tag: 24, Bytes: []byte(s)} }

// P10.2: times and their values, written down.
func TestTimesBothWays(t *testing.T) {
	for _, x := range []struct {
		at int
		v  der.Value
	}{
		{0, short("700101000000Z")}, {1, short("700101000001Z")}, {59, short("700101000059Z")}, {60, short("700101000100Z")}, {3599, short("700101005959Z")}, {3600, short("700101010000Z")},
		{86399, short("700101235959Z")}, {86400, short("700102000000Z")}, {951782400, short("000229000000Z")}, {951868800, short("000301000000Z")}, {946684799, short("991231235959Z")}, {946684800, short("000101000000Z")},
		{1709251200, short("240301000000Z")}, {1234567890, short("090213233130Z")}, {2147483648, short("380119031408Z")}, {2524607999, short("491231235959Z")},
		{2524608000, long("20500101000000Z")}, {4107542400, long("21000301000000Z")}, {4107542399, long("21000228235959Z")}, {253402300799, long("99991231235959Z")}, {253402214400, long("99991231000000Z")},
	} {
		if n, e := Time(x.v); n != x.at || e != api.OK {
			t.Errorf("%q: %d, %d", x.v.Bytes, n, e)
		}
		if v, e := TimeValue(x.at); !same(v, x.v) || e != api.OK {
			t.Errorf("%d: %d %q, %d", x.at, v.Tag, v.Bytes, e)
		}
		checkTimeValue(t, x.at)
	}
}

// P10.2: which values are no times, and which are times that can't be told.
func TestTimeErrors(t *testing.T) {
	for _, x := range []struct {
		v    der.Value
		want api.Errno
	}{
		{short("691231235959Z"), api.ErrTime}, {short("500101000000Z"), api.ErrTime}, {short("600229000000Z"), api.ErrTime}, {short("700101000000Z"), api.OK}, {short("490101000000Z"), api.OK},
		{long("20491231235959Z"), api.ErrTime}, {long("19700101000000Z"), api.ErrTime}, {long("19691231235959Z"), api.ErrTime}, {long("00000101000000Z"), api.ErrTime}, {long("20000229000000Z"), api.ErrTime}, {long("19500101000000Z"), api.ErrTime},
		{long("20500101000000Z"), api.OK}, {long("99991231235959Z"), api.OK}, {long("21000228000000Z"), api.OK}, {long("24000229000000Z"), api.OK},
		{der.Value{}, api.ErrForm}, {der.Value{Tag: 5}, api.ErrForm}, {short(""), api.ErrForm}, {long(""), api.ErrForm}, {seq(short("700101000000Z")), api.ErrForm},
		{short("20500101000000Z"), api.ErrForm}, {long("700101000000Z"), api.ErrForm}, {short("700101000000"), api.ErrForm}, {short("700101000000z"), api.ErrForm}, {short("700101000000ZZ"), api.ErrForm}, {short("7001010000Z"), api.ErrForm},
		{short("700100000000Z"), api.ErrForm}, {short("700001000000Z"), api.ErrForm}, {short("701301000000Z"), api.ErrForm}, {short("700132000000Z"), api.ErrForm}, {short("700431000000Z"), api.ErrForm}, {short("010229000000Z"), api.ErrForm},
		{short("700101240000Z"), api.ErrForm}, {short("700101006000Z"), api.ErrForm}, {short("700101000060Z"), api.ErrForm}, {short("69123123595 Z"), api.ErrForm}, {short("6912312359-1Z"), api.ErrForm},
		{long("21000229000000Z"), api.ErrForm}, {long("20490229000000Z"), api.ErrForm}, {long("20500101000000+0000"), api.ErrForm}, {long("20500101000000.5Z"), api.ErrForm},
		{der.Value{Class: 1, Tag: 23, Bytes: []byte("700101000000Z")}, api.ErrForm}, {der.Value{Class: 2, Tag: 24, Bytes: []byte("20500101000000Z")}, api.ErrForm}, {der.Value{Class: -1, Tag: 24, Bytes: []byte("20500101000000Z")}, api.ErrForm},
		{der.Value{Tag: 22, Bytes: []byte("700101000000Z")}, api.ErrForm}, {der.Value{Tag: 25, Bytes: []byte("20500101000000Z")}, api.ErrForm}, {der.Value{Tag: 12, Bytes: []byte("700101000000Z")}, api.ErrForm},
		{der.Value{Tag: 23, Made: true}, api.ErrForm}, {der.Value{Tag: 23, Made: true, Bytes: []byte("700101000000Z")}, api.ErrForm}, {der.Value{Tag: 23, Bytes: []byte("700101000000Z"), Kids: []der.Value{{Tag: 5}}}, api.ErrForm},
		{der.Value{Tag: 23, Bytes: []byte("691231235959Z"), Kids: []der.Value{{Tag: 5}}}, api.ErrForm},
	} {
		if e := checkTime(t, x.v); e != x.want {
			t.Errorf("%d %q: %d, not %d", x.v.Tag, x.v.Bytes, e, x.want)
		}
	}
	for _, at := range []int{-1, -2, -86400, -1 << 40, math.MinInt, 253402300800, 253402300801, 253402387200, 1 << 40, math.MaxInt} {
		if v, e := TimeValue(at); e != api.ErrTime || !isZero(v) {
			t.Errorf("%d: %+v, %d", at, v, e)
		}
	}
}

// P10.2: the first and last second of each day from 1970 to 2110, of each month, and of many times between.
func TestTimesOfTheCalendar(t *testing.T) {
	for at := 0; at < 141*366*86400; at += 86400 {
		checkTimeValue(t, at)
		checkTimeValue(t, at+86399)
	}
	for year := 1970; year <= 9999; year++ {
		for _, month := range []time.Month{1, 2, 3, 12} {
			at := int(time.Date(year, month, 1, 0, 0, 0, 0, time.UTC).Unix())
			checkTimeValue(t, at)
			checkTimeValue(t, at-1)
		}
	}
	for month := time.Month(1); month <= 12; month++ {
		for _, year := range []int{2096, 2100, 2400, 9996, 9999} {
			checkTimeValue(t, int(time.Date(year, month, 1, 0, 0, 0, 0, time.UTC).Unix()))
		}
	}
	r := rand.New(rand.NewSource(3))
	for range 20000 {
		checkTimeValue(t, r.Intn(api.MaxTime+1))
		checkTimeValue(t, r.Intn(2524608000+1000))
		checkTimeValue(t, r.Int()-r.Int())
	}
}

// P10.2: time values as they are and bent, those ahead of 1970 and the long ones to 2049 too.
func TestTimesBent(t *testing.T) {
	r := rand.New(rand.NewSource(4))
	hits := map[api.Errno]int{}
	for range 40000 {
		at := time.Unix(int64(r.Intn(4<<30)-1<<30), 0).UTC()
		v := long(at.Format(longLayout))
		if r.Intn(2) == 0 {
			v = short(at.Format("060102150405Z"))
		}
		hits[checkTime(t, v)]++
		v.Bytes[r.Intn(len(v.Bytes))] += byte(r.Intn(3)) - 1
		hits[checkTime(t, v)]++
		v.Tag += r.Intn(3) - 1
		hits[checkTime(t, v)]++
	}
	for _, e := range []api.Errno{api.OK, api.ErrForm, api.ErrTime} {
		if hits[e] < 5000 {
			t.Errorf("%d came %d times alone", e, hits[e])
		}
	}
}
