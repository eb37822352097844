package disk

import (
	"math"
	"slices"
	"strings"
	"testing"

	"mainline/api"
	"mainline/samples"
)

func TestP9_1NewIsEmpty(t *testing.T) {
	isLikeNew(t, New(), "")
	for _, off := range append(strangeNumbers(), 0, 1) {
		for _, n := range append(strangeNumbers(), 0, 1) {
			if s := New().Read(off, n); s != "" {
				t.Errorf("Read(%d, %d) of a new disk: %q", off, n, s)
			}
		}
	}
}

func TestP9_1ReadFromEachOffset(t *testing.T) {
	for _, contents := range []string{"a", "ab\x00\xffc\x00", digits(130)} {
		d := done(t, write(0, contents))
		w := newByWords()
		w.do(write(0, contents))
		all := strangeNumbers()
		for n := -2; n <= len(contents)+2; n++ {
			all = append(all, n)
		}
		for _, off := range all {
			for _, n := range all {
				if got, want := d.Read(off, n), w.read(off, n); got != want {
					t.Fatalf("Read(%d, %d) of %q: %q; want %q", off, n, contents, got, want)
				}
			}
		}
		holds(t, d, contents)
	}
}

func TestP9_1DisksAreIndependent(t *testing.T) {
	a, b := New(), New()
	returns(t, a, write(0, "aa"), api.OK)
	a.Fail(1)
	returns(t, b, write(1, "b"), api.OK)
	returns(t, b, sync, api.OK)
	holds(t, a, "aa")
	holds(t, b, "\x00b")
	returns(t, a, sync, api.OK)
	returns(t, a, sync, api.ErrPower)
	returns(t, b, sync, api.OK)
}

func TestP9_2WriteOfTheExample(t *testing.T) {
	d := done(t, write(2, "ab"))
	holds(t, d, "\x00\x00ab")
	returns(t, d, sync, api.OK)
	returns(t, d, write(3, "xyz"), api.OK)
	holds(t, d, "\x00\x00axyz")
	keeps(t, d, nil, "\x00\x00ab")
}

// TestP9_2WriteAtEachOffset writes strings to contents that are too short, just long enough, and longer.
func TestP9_2WriteAtEachOffset(t *testing.T) {
	for size := range 6 {
		for off := range 9 {
			for _, text := range []string{"", "\x00", "a", "bc", "\xff\x00d", "efghij"} {
				d := done(t, write(0, digits(size)), write(off, text))
				holds(t, d, withWritten(digits(size), off, text))
			}
		}
	}
}

func TestP9_2EmptyStringsFillUp(t *testing.T) {
	d := done(t, write(3, ""))
	holds(t, d, zeros(3))
	for _, off := range []int{0, 3, 100, 64, 99} {
		returns(t, d, write(off, ""), api.OK)
	}
	holds(t, d, zeros(100))
	returns(t, d, write(0, "ab"), api.OK)
	returns(t, d, write(1, ""), api.OK)
	holds(t, d, "ab"+zeros(98))
}

// TestP9_2FilledUpWithZeros checks that nothing else than zeros comes between, whatever the memory behind the contents was used for.
func TestP9_2FilledUpWithZeros(t *testing.T) {
	d, want := New(), ""
	for n := range 200 {
		off := len(want) + n%7
		returns(t, d, write(off, "x"), api.OK)
		want = withWritten(want, off, "x")
		holds(t, d, want)
		if n%5 == 0 {
			d = d.Crash(always)
		}
	}
}

func TestP9_2WriteUpToTheEnd(t *testing.T) {
	d := New()
	returns(t, d, write(most-2, "ab"), api.OK)
	returns(t, d, write(most, ""), api.OK)
	returns(t, d, write(most-1, "c"), api.OK)
	refuses(t, d, write(most-1, "de"), api.ErrArg)
	refuses(t, d, write(most, "d"), api.ErrArg)
	refuses(t, d, write(most+1, ""), api.ErrArg)
	if s := d.Read(most-3, 9); s != "\x00ac" || d.Size() != most {
		t.Errorf("%q, %d bytes", s, d.Size())
	}
	whole := strings.Repeat("w", most)
	refuses(t, d, write(0, whole+"x"), api.ErrArg)
	refuses(t, d, write(1, whole), api.ErrArg)
	returns(t, d, write(0, whole), api.OK)
	holds(t, d, whole)
	keeps(t, d, always, whole)
	returns(t, d, sync, api.OK)
	keeps(t, d, nil, whole)
}

func TestP9_2EmptyStringAtTheEnd(t *testing.T) {
	d := done(t, write(most, ""), sync)
	keeps(t, d, nil, zeros(most))
}

// refuses checks that a call has an error, and changes nothing, also not for crashes.
func refuses(t *testing.T, d *Disk, c call, want api.Errno) {
	t.Helper()
	contents, dead, alive := d.Read(0, most), d.Crash(nil).Read(0, most), d.Crash(always).Read(0, most)
	returns(t, d, c, want)
	holds(t, d, contents)
	keeps(t, d, nil, dead)
	keeps(t, d, always, alive)
}

func TestP9_2WrongOffsets(t *testing.T) {
	for _, off := range strangeNumbers() {
		for _, text := range []string{"", "a", strings.Repeat("a", 65), strings.Repeat("a", 70000)} {
			for _, d := range []*Disk{New(), done(t, write(0, "ab"), sync, write(1, "cd"))} {
				refuses(t, d, write(off, text), api.ErrArg)
				d.Fail(0)
				refuses(t, d, write(off, text), api.ErrArg) // it comes before ErrPower
			}
		}
	}
}

func TestP9_2WithoutPower(t *testing.T) {
	d := done(t, write(0, "ab"), sync, write(1, "cd"))
	d.Fail(0)
	for _, c := range []call{sync, write(0, ""), write(0, "x"), write(9, ""), write(200, "y"), write(most, ""), write(most-1, "z"), sync} {
		refuses(t, d, c, api.ErrPower)
	}
	if s := d.Read(1, 1); s != "c" { // reading needs no power
		t.Errorf("Read: %q", s)
	}
	d.Fail(-1)
	returns(t, d, write(4, "e"), api.OK)
	holds(t, d, "acd\x00e")
	keeps(t, d, nil, "ab") // the Sync without power was none
	returns(t, d, sync, api.OK)
	keeps(t, d, nil, "acd\x00e")
}

func TestP9_2CallsCountsCallsWithoutError(t *testing.T) {
	d := New()
	for n := range 50 {
		returns(t, d, sync, api.OK)
		returns(t, d, write(n, ""), api.OK)
		returns(t, d, write(-1-n, "a"), api.ErrArg)
		d.Fail(0)
		returns(t, d, sync, api.ErrPower)
		returns(t, d, write(0, "a"), api.ErrPower)
		d.Fail(-1)
		d.Read(0, n)
		d.Size()
		d.Crash([]int{n})
		if d.Calls() != 2*n+2 {
			t.Fatalf("%d calls; want %d", d.Calls(), 2*n+2)
		}
	}
}

func TestP9_2CallsFollowTheWords(t *testing.T) {
	inManyRuns(t, func(d *Disk, w *byWords, below func(int) int) {
		holds(t, d, w.contents())
		if d.Calls() != len(w.done) {
			t.Fatalf("%d calls after %+v", d.Calls(), w.done)
		}
		off, n := below(300)-20, below(100)-10
		if got, want := d.Read(off, n), w.read(off, n); got != want {
			t.Fatalf("Read(%d, %d) after %+v: %q; want %q", off, n, w.done, got, want)
		}
	})
}

func TestP9_3FailOfTheExample(t *testing.T) {
	d := New()
	d.Fail(1)
	returns(t, d, sync, api.OK)
	returns(t, d, write(0, "a"), api.ErrPower)
	returns(t, d, write(-1, "a"), api.ErrArg)
	if d.Calls() != 1 {
		t.Errorf("%d calls", d.Calls())
	}
}

// TestP9_3FailAfterSomeCalls makes calls of all kinds; only those that return OK count.
func TestP9_3FailAfterSomeCalls(t *testing.T) {
	for _, kind := range []call{sync, write(0, ""), write(3, "ab"), write(0, digits(200))} {
		for before := range 3 {
			for after := range 6 {
				d := New()
				for range before {
					returns(t, d, kind, api.OK)
				}
				d.Fail(after)
				for range after {
					returns(t, d, write(-1, "a"), api.ErrArg)
					returns(t, d, write(most, "a"), api.ErrArg)
					returns(t, d, kind, api.OK)
				}
				for range 5 {
					returns(t, d, kind, api.ErrPower)
					returns(t, d, sync, api.ErrPower)
					returns(t, d, write(0, ""), api.ErrPower)
					returns(t, d, write(-1, "a"), api.ErrArg)
				}
			}
		}
	}
}

// TestP9_3TheLastFailCounts calls Fail twice, with calls between that return OK or not.
func TestP9_3TheLastFailCounts(t *testing.T) {
	for first := -2; first <= 5; first++ {
		for between := range 5 {
			for last := -2; last <= 5; last++ {
				d := New()
				d.Fail(first)
				for range between {
					d.Sync()
				}
				d.Fail(last)
				for n := range 20 {
					want := api.OK
					if last >= 0 && n >= last {
						want = api.ErrPower
					}
					returns(t, d, sync, want)
				}
			}
		}
	}
}

func TestP9_3FailWithStrangeNumbers(t *testing.T) {
	for _, after := range strangeNumbers() {
		d := New()
		d.Fail(0)
		d.Fail(after)
		for range 70 {
			returns(t, d, sync, api.OK)
		}
	}
}

func TestP9_3FailChangesNothingElse(t *testing.T) {
	d := done(t, write(0, "ab"), sync, write(1, "cd"), write(70, "ef"))
	contents := "acd" + zeros(67) + "ef"
	for _, after := range []int{0, 1, -1, 5, 0, -7} {
		d.Fail(after)
		holds(t, d, contents)
		keeps(t, d, nil, "ab")
		keeps(t, d, always, contents)
		keeps(t, d, []int{1, 0}, "acd")
		if d.Calls() != 4 {
			t.Fatalf("%d calls", d.Calls())
		}
	}
}

func TestP9_4CrashOfTheExamples(t *testing.T) {
	keeps(t, done(t, write(2, "ab"), sync, write(3, "xyz")), nil, "\x00\x00ab")
	d := done(t, write(60, strings.Repeat("x", 70)))
	keeps(t, d, []int{0, 1}, zeros(64)+strings.Repeat("x", 64))
	keeps(t, d, []int{1, 0}, zeros(60)+"xxxx"+zeros(64)+"xx")
	keeps(t, d, []int{0, 0, 1}, zeros(128)+"xx")
	keeps(t, d, always, zeros(60)+strings.Repeat("x", 70))
	keeps(t, d, []int{0}, "")
	keeps(t, d, []int{}, "")
}

// TestP9_4PartsOfEachWrite lets each part of a Write survive alone, and all but one.
func TestP9_4PartsOfEachWrite(t *testing.T) {
	for _, start := range []int{0, 64, 640, 1 << 14} {
		for before := range 66 {
			for _, size := range []int{0, 1, 2, 3, 63, 64, 65, 66, 127, 128, 129, 200, 321} {
				c := write(start+before, digits(size))
				d := New()
				d.Write(c.off, c.text)
				parts := partsOf(c)
				for k, part := range parts {
					alone := make([]int, len(parts))
					alone[k] = 1
					crashed := d.Crash(alone)
					if crashed.Size() != part.off+len(part.text) || crashed.Read(start, 999) != withWritten("", part.off-start, part.text) {
						t.Fatalf("part %d of %d bytes at %d: %d bytes, %q", k, size, c.off, crashed.Size(), crashed.Read(start, 999))
					}
				}
				if len(parts) == 0 && d.Crash(always).Size() != 0 {
					t.Fatalf("%d bytes of an empty string at %d survive", d.Crash(always).Size(), c.off)
				}
			}
		}
	}
}

func TestP9_4OddElementsSurvive(t *testing.T) {
	d := done(t, write(0, "a"))
	for _, odd := range []int{1, 3, -1, -3, 101, math.MaxInt, math.MinInt + 1, 1<<32 + 1} {
		keeps(t, d, []int{odd}, "a")
		keeps(t, d, []int{odd, 0}, "a")
	}
	for _, even := range []int{0, 2, -2, 100, math.MinInt, math.MaxInt - 1, 1 << 32} {
		keeps(t, d, []int{even}, "")
		keeps(t, d, []int{even, 1}, "")
	}
}

// TestP9_4PartsAreCountedOverAllWrites has 7 Writes of one part each, with empty ones and errors between, which have none.
func TestP9_4PartsAreCountedOverAllWrites(t *testing.T) {
	d := done(t, write(0, "before"), sync)
	for n := range 7 {
		returns(t, d, write(n, "1234567"[n:n+1]), api.OK)
		returns(t, d, write(n, ""), api.OK)
		returns(t, d, write(-1, "x"), api.ErrArg)
		d.Fail(0)
		returns(t, d, write(0, "x"), api.ErrPower)
		returns(t, d, sync, api.ErrPower)
		d.Fail(-1)
	}
	keeps(t, d, nil, "before")
	keeps(t, d, always, "1234567")
	keeps(t, d, []int{1, 0}, "1e3o5e7")
	keeps(t, d, []int{0, 1}, "b2f4r6")
	keeps(t, d, []int{0, 0, 1}, "be3or6")
	keeps(t, d, []int{0, 0, 0, 0, 0, 0, 1}, "before7")
	keeps(t, d, []int{0, 0, 0, 0, 0, 0, 0, 1}, "before")
	keeps(t, d, []int{1, 0, 0, 0, 0, 0, 0, 1, 1, 1, 1}, "1efore")
}

// TestP9_4LaterPartsAreOverEarlierOnes writes the same bytes several times.
func TestP9_4LaterPartsAreOverEarlierOnes(t *testing.T) {
	d := done(t, write(0, "aaaa"), sync, write(0, "bb"), write(1, "ccc"), write(2, "d"), write(0, "ee"))
	keeps(t, d, always, "eedc")
	keeps(t, d, []int{1, 1, 1, 0}, "bcdc")
	keeps(t, d, []int{1, 0, 0, 0}, "bbaa")
	keeps(t, d, []int{0, 1}, "eecc")
	keeps(t, d, []int{1, 0}, "bbda")
	keeps(t, d, []int{0, 0, 1, 1}, "eeda")
}

// TestP9_4OnlyPartsFillUp checks that the zeros before a Write belong to its first part that survives, and that an empty Write leaves none.
func TestP9_4OnlyPartsFillUp(t *testing.T) {
	d := done(t, write(1, "a"), sync, write(100, ""), write(200, "b"))
	keeps(t, d, nil, "\x00a")
	keeps(t, d, []int{0, 1}, "\x00a")
	keeps(t, d, always, "\x00a"+zeros(198)+"b")
	keeps(t, done(t, write(100, "")), always, "")
	keeps(t, done(t, write(100, ""), sync), nil, zeros(100))
	keeps(t, done(t, write(100, ""), sync, write(150, "")), always, zeros(100))
}

func TestP9_4TheLastSyncCounts(t *testing.T) {
	d := done(t, sync, write(0, "a"), sync, write(1, "b"), write(2, ""), sync, sync, write(0, "c"), write(2, "d"))
	keeps(t, d, nil, "ab")
	keeps(t, d, []int{1, 0}, "cb")
	keeps(t, d, []int{0, 1}, "abd")
	keeps(t, d, always, "cbd")
	returns(t, d, sync, api.OK)
	keeps(t, d, nil, "cbd")
	keeps(t, d, always, "cbd")
	keeps(t, done(t, write(0, "a")), nil, "")
}

// TestP9_4TheNewDiskIsLikeANewOne also lets the power of the disk be off, or fail later.
func TestP9_4TheNewDiskIsLikeANewOne(t *testing.T) {
	for _, after := range []int{-1, 0, 1, 3} {
		for _, survive := range [][]int{nil, always, {0, 1}} {
			d := done(t, write(0, "ab"), sync, write(1, "c"), write(2, "d"))
			want := map[int]string{0: "ab", 1: "acd", 2: "abd"}[len(survive)]
			d.Fail(after)
			isLikeNew(t, d.Crash(survive), want)
			d.Sync()
			isLikeNew(t, d.Crash(nil).Crash(survive), d.Crash(nil).Read(0, 9))
		}
	}
}

func TestP9_4CrashesFollowTheWords(t *testing.T) {
	inManyRuns(t, func(d *Disk, w *byWords, below func(int) int) {
		for range 3 {
			survive := randomSurvive(below)
			crashed := d.Crash(survive)
			if got, want := crashed.Read(0, most), w.crash(survive).contents(); got != want {
				t.Fatalf("Crash(%v) after %+v: %q; want %q", survive, w.done, got, want)
			}
			keeps(t, crashed, nil, crashed.Read(0, most))
			keeps(t, crashed, always, crashed.Read(0, most))
			holds(t, d, w.contents())
		}
	})
}

func TestP9_5Nil(t *testing.T) {
	var d *Disk
	for range 2 {
		if d.Size() != 0 || d.Calls() != 0 || d.Read(0, 1) != "" || d.Read(-1, -1) != "" {
			t.Errorf("%d bytes, %d calls, %q of a nil disk", d.Size(), d.Calls(), d.Read(0, 1))
		}
		for _, c := range []call{sync, write(0, ""), write(0, "a"), write(-1, "a"), write(most, "a")} {
			if e := do(d, c); e != api.ErrArg {
				t.Errorf("error %d of %+v on a nil disk", e, c)
			}
		}
		for _, after := range []int{0, 1, -1} {
			d.Fail(after)
		}
		for _, survive := range [][]int{nil, {}, {1}, {0, 1}} {
			isLikeNew(t, d.Crash(survive), "")
		}
	}
	if a, b := d.Crash(nil), d.Crash(nil); a == b {
		t.Error("two crashes return the same disk")
	}
}

func TestP9_5Zero(t *testing.T) {
	isLikeNew(t, &Disk{}, "")
	isLikeNew(t, new(Disk).Crash(always), "")
	var d Disk
	d.Fail(2)
	returns(t, &d, write(1, "a"), api.OK)
	returns(t, &d, sync, api.OK)
	returns(t, &d, sync, api.ErrPower)
	holds(t, &d, "\x00a")
}

func TestP9_6WhatWasSyncedSurvives(t *testing.T) {
	for seed := range uint32(200) {
		below := samples.Below(seed)
		d := New()
		for range 20 {
			do(d, randomCall(below))
		}
		d.Sync()
		synced := d.Read(0, most)
		d.Fail(below(4) - 1)
		for range below(5) {
			d.Crash(randomSurvive(below)).Write(0, "elsewhere")
			d.Write(0, "")
		}
		keeps(t, d, randomSurvive(below), synced)
		keeps(t, d, nil, synced)
	}
}

// TestP9_6BytesAreOldOrWritten looks at each byte after a crash.
func TestP9_6BytesAreOldOrWritten(t *testing.T) {
	inManyRuns(t, func(d *Disk, w *byWords, below func(int) int) {
		synced, crashed := d.Crash(nil).Read(0, most), d.Crash(randomSurvive(below)).Read(0, most)
		if len(crashed) < len(synced) {
			t.Fatalf("%d bytes of %d are left after %+v", len(crashed), len(synced), w.done)
		}
		possible := make([][]byte, max(d.Size(), len(crashed)))
		for i := range possible {
			possible[i] = []byte{0}
			if i < len(synced) {
				possible[i][0] = synced[i]
			}
		}
		for _, c := range w.done[w.lastSync():] {
			for i := range len(c.text) {
				possible[c.off+i] = append(possible[c.off+i], c.text[i])
			}
		}
		for i := range len(crashed) {
			if !slices.Contains(possible[i], crashed[i]) {
				t.Fatalf("byte %d is %q after %+v; possible are %q", i, crashed[i], w.done, possible[i])
			}
		}
	})
}

// TestP9_6DisksAreIndependentAfterACrash writes in turn to a disk and to what crashes of it returned, within the contents and behind them.
func TestP9_6DisksAreIndependentAfterACrash(t *testing.T) {
	for _, survive := range [][]int{nil, {}, always, {0, 1}} {
		d := done(t, write(0, "abcdef"), sync, write(1, "x"), write(70, "y"))
		before, after := d.Read(0, most), d.Crash(survive).Read(0, most)
		first, second := d.Crash(survive), d.Crash(survive)
		third := first.Crash(survive)
		for n := range 20 {
			returns(t, first, write(n, "FIRST"), api.OK)
			returns(t, first, write(first.Size(), "+"), api.OK)
			holds(t, d, before)
			holds(t, second, after)
			holds(t, third, after)
			keeps(t, first, nil, after)
		}
		returns(t, first, sync, api.OK)
		kept := first.Read(0, most)
		for n := range 20 {
			returns(t, d, write(n, "disk"), api.OK)
			returns(t, d, write(d.Size(), "-"), api.OK)
		}
		returns(t, d, sync, api.OK)
		d.Fail(0)
		holds(t, first, kept)
		keeps(t, first, nil, kept)
		holds(t, second, after)
		keeps(t, second, nil, after)
		returns(t, second, sync, api.OK)
		if first.Calls() != 41 || second.Calls() != 1 || third.Calls() != 0 {
			t.Errorf("%d, %d, %d calls", first.Calls(), second.Calls(), third.Calls())
		}
	}
}

// TestP9_6ManyCrashes goes on with what a crash left, any number of times.
func TestP9_6ManyCrashes(t *testing.T) {
	d, want := New(), ""
	for n := range 300 {
		returns(t, d, write(n, "s"), api.OK)
		returns(t, d, sync, api.OK)
		want += "s"
		returns(t, d, write(0, strings.Repeat("x", n+1)), api.OK)
		d = d.Crash(nil)
		holds(t, d, want)
	}
}

func TestP1CallsEndForAllArguments(t *testing.T) {
	var none *Disk
	numbers := append(strangeNumbers(), 0, 1, 63, 64, 65, most, most-1)
	for _, d := range []*Disk{none, {}, New(), done(t, write(0, "ab"), sync, write(70, digits(200)))} {
		for _, a := range numbers {
			d.Fail(a)
			for _, b := range numbers {
				d.Read(a, b)
			}
			d.Write(a, "")
			d.Write(a, "ab")
			d.Sync()
			d.Write(a, "cd")
			d.Crash([]int{a, 1}).Crash([]int{1, a})
		}
		d.Crash(make([]int, 1000000))
	}
}

// TestP1ManyCalls would take minutes if a call took time for the whole contents, or for all calls before it.
func TestP1ManyCalls(t *testing.T) {
	const many = 200000
	d := done(t, write(most-64, digits(64)))
	for n := range many {
		if d.Write(n*64, "ab") != api.OK || n%2 == 0 && d.Sync() != api.OK || d.Read(n*64, 2) != "ab" {
			t.Fatalf("call %d", n)
		}
	}
	if d.Calls() != 1+many+many/2 {
		t.Errorf("%d calls", d.Calls())
	}
	returns(t, d, sync, api.OK)
	for n := range many {
		d.Write(n%70*64, digits(64))
	}
	if crashed := d.Crash([]int{0, 1}); crashed.Read(0, 3) != "ab\x00" || crashed.Read(64, 64) != digits(64) || crashed.Size() != most {
		t.Errorf("%d bytes: %q", crashed.Size(), crashed.Read(0, 200))
	}
}

func TestP1ManyParts(t *testing.T) {
	d := done(t, write(1, strings.Repeat("a", most-1)))
	for range 3 {
		d.Write(0, strings.Repeat("b", most))
	}
	crashed := d.Crash([]int{1, 0, 0})
	if s := crashed.Read(0, 200); crashed.Size() != most || !strings.HasPrefix(s, "b") {
		t.Errorf("%d bytes: %q", crashed.Size(), s)
	}
}
