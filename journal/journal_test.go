package journal

import (
	"slices"
	"strings"
	"testing"

	"mainline/api"
	"mainline/codec"
	"mainline/disk"
	"mainline/samples"
)

func TestP10_1OpenOfNil(t *testing.T) {
	for range 2 {
		if j, records, e := Open(nil); j != nil || len(records) != 0 || e != api.ErrArg {
			t.Errorf("journal %t, %q, error %d", j != nil, records, e)
		}
	}
}

func TestP10_1OpenOfNewDisk(t *testing.T) {
	for _, d := range []*disk.Disk{disk.New(), {}, disk.New().Crash(nil)} {
		opened(t, d)
		if d.Calls() != 1 || d.Size() != 0 {
			t.Errorf("%d calls, %d bytes", d.Calls(), d.Size())
		}
	}
}

// TestP10_1OpenFindsFrames checks the records, what Open writes, that all survives, and that there are no other calls.
func TestP10_1OpenFindsFrames(t *testing.T) {
	a, b, empty := frameOf("a"), frameOf("b"), frameOf("")
	for _, c := range []struct {
		contents string
		want     []string
		end      int
	}{
		{"\x00", nil, 0},
		{"\x01", nil, 0},
		{"\x02", nil, 0},
		{"\xff", nil, 0},
		{"\x01\x00", nil, 0},
		{"\x01\x80", nil, 0},
		{"\x01\xff", nil, 0},
		{a, []string{"a"}, 7},
		{a + "\x00", []string{"a"}, 7},
		{a + "\x00\x00\x01", []string{"a"}, 7},
		{a + "\x01", []string{"a"}, 7},
		{a + "\x02", []string{"a"}, 7},
		{a + "x", []string{"a"}, 7},
		{empty, []string{""}, 6},
		{empty + empty + a + empty, []string{"", "", "a", ""}, 25},
		{a + b, []string{"a", "b"}, 14},
		{a + "\x00" + b, []string{"a"}, 7},
		{a + "\x01" + b, []string{"a"}, 7},
		{a + a[1:], []string{"a"}, 7},
		{"\x00" + a, nil, 0},
		{a[1:], nil, 0},
		{"\x02" + a[1:], nil, 0},
		{"\x81" + a[1:], nil, 0},
		{frameOf(a), []string{a}, 13},
		{frameOf(digits(127)), []string{digits(127)}, 133},
		{frameOf(digits(128)), []string{digits(128)}, 135},
		{frameOf(digits(20000)) + b, []string{digits(20000), "b"}, 20015},
	} {
		d := diskWith(c.contents)
		opened(t, d, c.want...)
		after, calls := c.contents, 2
		if len(after) > c.end && after[c.end] != 0 {
			after, calls = after[:c.end]+"\x00"+after[c.end+1:], 3
		}
		if contentsOf(d) != after || syncedOf(d) != after || d.Calls() != calls {
			t.Errorf("contents %.200q, synced %.200q, %d calls; want %.200q, %d", contentsOf(d), syncedOf(d), d.Calls(), after, calls)
		}
	}
}

// TestP10_1NoOtherFrames changes each bit of a frame, and cuts it off at each byte: the frames before it are found, and none behind it.
func TestP10_1NoOtherFrames(t *testing.T) {
	for _, r := range []string{"", "ab", digits(130), framesOf("inner")} {
		f := frameOf(r)
		for at := range len(f) {
			opened(t, diskWith(frameOf("before")+f[:at]), "before")
			for bit := range 8 {
				wrong := f[:at] + string([]byte{f[at] ^ 1<<bit}) + f[at+1:]
				opened(t, diskWith(frameOf("before")+wrong+frameOf("behind")), "before")
			}
		}
	}
}

// TestP10_1WrongNumbers has sums that are right, behind numbers that are not: too long for the record, for the disk, or for a number, or with more groups than they need.
func TestP10_1WrongNumbers(t *testing.T) {
	numbers := []string{"\x80\x00", "\x81\x00", "\x81\x80\x00", "\xff\xff\xff\xff\xff\xff\xff\xff\xff\x02", "\xff\xff\xff\xff\xff\xff\xff\xff\xff\xff\x01", "\x80\x80\x80\x80\x80\x80\x80\x80\x80\x80"}
	for _, n := range []uint64{2, 3, 4, 5, 6, 7, 127, 128, 1 << 24, 1<<31 - 1, 1 << 31, 1<<32 + 1, 1<<63 - 1, 1 << 63, 1<<63 + 1, 1<<64 - 1, 1<<64 - 4, 1<<64 - 5, 1<<64 - 14} {
		numbers = append(numbers, codec.Number(n))
	}
	for _, number := range numbers {
		sum := codec.Sum(number + "a")
		wrong := "\x01" + number + "a" + string([]byte{byte(sum), byte(sum >> 8), byte(sum >> 16), byte(sum >> 24)})
		opened(t, diskWith(wrong))
		opened(t, diskWith(frameOf("before")+wrong+frameOf("a")), "before")
	}
}

func TestP10_1OpenByWords(t *testing.T) {
	for seed := range uint32(3000) {
		p := twins{below: samples.Below(seed)}
		contents := randomContents(p.below)
		p.d, p.e = diskWith(contents), diskWith(contents)
		p.open(t)
		p.agree(t)
	}
	for _, contents := range samples.Strings("\x00\x01\x02\x80", 6) {
		p := twins{below: samples.Below(1), d: diskWith(contents), e: diskWith(contents)}
		p.open(t)
		p.agree(t)
	}
}

// TestP10_1OpenWithoutPower lets the power fail before each call of Open.
func TestP10_1OpenWithoutPower(t *testing.T) {
	for _, c := range []struct {
		behind string
		calls  int
	}{{"", 1}, {"\x00\x01", 1}, {"\x01", 2}, {"\x03\x01", 2}} {
		contents := framesOf("a", "b") + c.behind
		for after := range c.calls {
			d := diskWith(contents)
			d.Fail(after)
			j, records, e := Open(d)
			if j != nil || len(records) != 0 || e != api.ErrPower {
				t.Fatalf("journal %t, %q, error %d of Open of %q with %d calls", j != nil, records, e, contents, after)
			}
			want := contents
			if after == 1 {
				want = framesOf("a", "b") + "\x00" + c.behind[1:]
			}
			if contentsOf(d) != want || syncedOf(d) != "" || d.Calls() != 1+after {
				t.Fatalf("contents %q, synced %q, %d calls after Open of %q with %d calls", contentsOf(d), syncedOf(d), d.Calls(), contents, after)
			}
			d.Fail(-1)
			opened(t, d, "a", "b")
		}
		d := diskWith(contents)
		d.Fail(c.calls)
		j := opened(t, d, "a", "b")
		returns(t, d, j, "c", api.ErrPower)
	}
}

// TestP10_1OpenLetsWhatItFindsSurvive finds a record whose Append was not synced.
func TestP10_1OpenLetsWhatItFindsSurvive(t *testing.T) {
	d := disk.New()
	j := opened(t, d)
	d.Fail(3)
	returns(t, d, j, "a", api.ErrPower)
	opened(t, d.Crash(nil))
	d.Fail(-1)
	opened(t, d, "a")
	opened(t, d.Crash(nil), "a")
}

func TestP10_1RecordsAreNew(t *testing.T) {
	d := diskWith(framesOf("a", "b"))
	j, records, _ := Open(d)
	records[0], records[1] = "x", "y"
	returns(t, d, j, "c", api.OK)
	_, again, _ := Open(d)
	if !slices.Equal(again, []string{"a", "b", "c"}) || records[0] != "x" {
		t.Errorf("%q, %q", again, records)
	}
}

func TestP10_2AppendOfTheExamples(t *testing.T) {
	d := disk.New()
	j := opened(t, d)
	returns(t, d, j, "ab", api.OK)
	sum := codec.Sum("\x02ab")
	if s := contentsOf(d); s != "\x01\x02ab"+string([]byte{byte(sum), byte(sum >> 8), byte(sum >> 16), byte(sum >> 24)})+"\x00" {
		t.Errorf("contents %q", s)
	}
	opened(t, d.Crash(nil), "ab")
	d.Fail(1)
	returns(t, d, j, "c", api.ErrPower)
	returns(t, d, j, "d", api.ErrPower)
	for _, survive := range [][]int{nil, always, {0, 1}, {1, 0}} {
		opened(t, d.Crash(survive), "ab")
	}
	d = d.Crash(nil)
	j = opened(t, d, "ab")
	d.Fail(3)
	returns(t, d, j, "c", api.ErrPower)
	opened(t, d.Crash(always), "ab", "c")
	opened(t, d.Crash(nil), "ab")
}

// TestP10_2EachCallOfAppend lets the power fail after each of the four calls, and looks at the contents, and at those of the last Sync.
func TestP10_2EachCallOfAppend(t *testing.T) {
	for _, start := range []string{"", "\x00", framesOf("", "before"), frameOf(digits(50)), frameOf("a") + "\x00" + strings.Repeat("s", 500)} {
		_, end := foundByWords(start)
		for _, r := range hardRecords() {
			f := frameOf(r)
			blanked := overwritten(start, end+1, f[1:]+"\x00")
			framed := overwritten(blanked, end, "\x01")
			contents := []string{start, blanked, blanked, framed, framed}
			synced := []string{start, start, blanked, blanked, framed}
			for calls := range 5 {
				d := diskWith(start)
				j, _, _ := Open(d)
				d.Fail(calls)
				many, want := j.Many(), api.ErrPower
				if calls == 4 {
					many, want = many+1, api.OK
				}
				if e := j.Append(r); e != want || j.Many() != many || d.Calls() != 2+calls {
					t.Fatalf("error %d, Many %d, %d calls of Append of %q with %d calls", e, j.Many(), d.Calls(), r, calls)
				}
				if contentsOf(d) != contents[calls] || syncedOf(d) != synced[calls] {
					t.Fatalf("contents %q, synced %q after Append of %q with %d calls; want %q, %q", contentsOf(d), syncedOf(d), r, calls, contents[calls], synced[calls])
				}
			}
		}
	}
}

// overwritten returns contents to which a string is written.
func overwritten(contents string, off int, text string) string {
	bytes := []byte(contents)
	for len(bytes) < off+len(text) {
		bytes = append(bytes, 0)
	}
	copy(bytes[off:], text)
	return string(bytes)
}

// TestP10_2RecordsFollowEachOther checks where the end is after each record: the frames have nothing between them.
func TestP10_2RecordsFollowEachOther(t *testing.T) {
	d := disk.New()
	j := opened(t, d)
	for n, r := range hardRecords() {
		returns(t, d, j, r, api.OK)
		if want := framesOf(hardRecords()[:n+1]...) + "\x00"; contentsOf(d) != want {
			t.Fatalf("contents %.300q; want %.300q", contentsOf(d), want)
		}
	}
	if d.Calls() != 1+4*len(hardRecords()) {
		t.Errorf("%d calls", d.Calls())
	}
}

// TestP10_2NothingAfterAnError checks that the journal never calls the disk again, also if its power is back, and whatever the record is.
func TestP10_2NothingAfterAnError(t *testing.T) {
	tooLong := strings.Repeat("x", most)
	for after := range 4 {
		d := diskWith(frameOf("before"))
		j := opened(t, d, "before")
		d.Fail(after)
		returns(t, d, j, "a", api.ErrPower)
		for _, again := range []int{0, -1, 1, 100} {
			d.Fail(again)
			for _, r := range []string{"a", "", digits(300), tooLong} {
				refuses(t, d, j, r, api.ErrPower)
			}
		}
		d.Fail(-1)
		other, _, e := Open(d)
		if e != api.OK || other.Append("other") != api.OK {
			t.Fatalf("error %d of another journal after %d calls", e, after)
		}
		refuses(t, d, j, "a", api.ErrPower)
	}
}

func TestP10_2NilJournal(t *testing.T) {
	var j *Journal
	for _, r := range []string{"", "a", strings.Repeat("x", most)} {
		if e := j.Append(r); e != api.ErrArg || j.Many() != 0 {
			t.Errorf("error %d, Many %d", e, j.Many())
		}
	}
}

// TestP10_2FullDisk appends, to a frame that ends near the end of the disk, the longest record that fits, and one that is too long.
func TestP10_2FullDisk(t *testing.T) {
	for _, left := range []int{0, 1, 6, 7, 8, 20} {
		first := strings.Repeat("f", most-left-9)
		longest := left - 2 - 5 // of a record of fewer than 128 bytes, whose body is longer by 5
		start := diskWith(frameOf(first))
		j := opened(t, start, first)
		if start.Size() != most-left || start.Calls() != 2 {
			t.Fatalf("%d bytes, %d calls", start.Size(), start.Calls())
		}
		for n := max(0, longest+1); n < longest+4; n++ {
			returns(t, start, j, strings.Repeat("x", n), api.ErrMany)
		}
		if longest < 0 {
			returns(t, start, j, "", api.ErrMany)
			continue
		}
		returns(t, start, j, strings.Repeat("x", longest), api.OK)
		if start.Size() != most || start.Read(most-1, 1) != "\x00" {
			t.Fatalf("%d bytes, %q at last", start.Size(), start.Read(most-1, 1))
		}
		returns(t, start, j, "", api.ErrMany)
	}
}

func TestP10_2LongestRecord(t *testing.T) {
	d := disk.New()
	j := opened(t, d)
	for _, n := range []int{most - 9, most - 8, most, most + 1, 4 * most} {
		refuses(t, d, j, strings.Repeat("x", n), api.ErrMany)
	}
	longest := strings.Repeat("x", most-10)
	returns(t, d, j, longest, api.OK)
	refuses(t, d, j, "", api.ErrMany)
	opened(t, d.Crash(nil), longest)
}

// TestP10_2ErrManyChangesNothing checks that other records can be appended after it, and that it does not depend on the power.
func TestP10_2ErrManyChangesNothing(t *testing.T) {
	tooLong := strings.Repeat("x", most-10)
	d := disk.New()
	j := opened(t, d)
	appended(t, d, j, "a")
	refuses(t, d, j, tooLong, api.ErrMany)
	appended(t, d, j, "b")
	d.Fail(0)
	refuses(t, d, j, tooLong, api.ErrMany)
	d.Fail(-1)
	appended(t, d, j, "c")
	opened(t, d, "a", "b", "c")
}

// TestP10_2SizeDoesNotCount appends within a disk that is as large as possible.
func TestP10_2SizeDoesNotCount(t *testing.T) {
	d := disk.New()
	d.Write(most, "")
	j := opened(t, d)
	appended(t, d, j, "a", "b")
	opened(t, d.Crash(nil), "a", "b")
}

func TestP10_2AppendByWords(t *testing.T) {
	inManyRuns(t, func(func(int) int) string { return "" })
	inManyRuns(t, randomContents)
}

func TestP10_2JournalsAreIndependent(t *testing.T) {
	a, b := disk.New(), disk.New()
	j, k := opened(t, a), opened(t, b)
	appended(t, a, j, "a")
	appended(t, b, k, "b", "bb")
	a.Fail(0)
	returns(t, a, j, "x", api.ErrPower)
	appended(t, b, k, "bbb")
	opened(t, b, "b", "bb", "bbb")
	if j.Many() != 1 || k.Many() != 3 {
		t.Errorf("%d, %d records", j.Many(), k.Many())
	}
}

func TestP10_3Many(t *testing.T) {
	var none *Journal
	if none.Many() != 0 {
		t.Errorf("%d records of a nil journal", none.Many())
	}
	d := diskWith(framesOf("a", "", "a"))
	j := opened(t, d, "a", "", "a")
	for n := range 50 {
		returns(t, d, j, "same", api.OK)
		if j.Many() != 4+n || j.Many() != 4+n {
			t.Fatalf("%d records after %d calls", j.Many(), n+1)
		}
	}
	returns(t, d, j, strings.Repeat("x", most), api.ErrMany)
	d.Fail(3)
	returns(t, d, j, "b", api.ErrPower)
	d.Fail(-1)
	returns(t, d, j, "c", api.ErrPower)
	if j.Many() != 53 {
		t.Errorf("%d records; want 53", j.Many())
	}
	if after, _, _ := Open(d); after.Many() != 54 {
		t.Errorf("%d records; want 54", after.Many())
	}
}

// found checks that Open finds the records that are there for sure, and behind them at most the one that was being appended; it returns the journal, and what it found.
func found(t *testing.T, d *disk.Disk, sure, maybe []string) (*Journal, []string) {
	t.Helper()
	j, records, e := Open(d)
	if e != api.OK || !slices.Equal(records, sure) && (len(maybe) == 0 || !slices.Equal(records, slices.Concat(sure, maybe))) {
		t.Fatalf("Open: %.300q, error %d; want %.300q, and possibly %.300q", records, e, sure, maybe)
	}
	if j.Many() != len(records) {
		t.Fatalf("Many is %d after Open with %d records", j.Many(), len(records))
	}
	return j, records
}

// run appends records until one cannot be; it returns those that the journal contains, and the one that failed.
func run(t *testing.T, j *Journal, before, records []string) (sure, maybe []string) {
	t.Helper()
	sure = slices.Clone(before)
	for _, r := range records {
		e := j.Append(r)
		switch {
		case len(maybe) > 0 && e != api.ErrPower:
			t.Fatalf("error %d of an Append after ErrPower", e)
		case e == api.OK:
			sure = append(sure, r)
		case len(maybe) == 0:
			maybe = []string{r}
		}
	}
	return sure, maybe
}

// allChoices returns all choices of so many parts.
func allChoices(parts int) [][]int {
	var all [][]int
	for bits := range 1 << parts {
		survive := make([]int, parts)
		for k := range survive {
			survive[k] = bits >> k & 1
		}
		all = append(all, survive)
	}
	return all
}

// TestP10_4PowerFailsAtEachCall fails at each call of two rounds, with each choice of parts in the first one.
func TestP10_4PowerFailsAtEachCall(t *testing.T) {
	empty := frameOf("")
	lists := [][]string{
		{"ab", "c"},
		{digits(280), "", "b"},
		{strings.Repeat(empty, 40), "a"},
		{digits(57) + empty + digits(58) + frameOf("inner") + digits(100), digits(55)},
		{frameOf(digits(100)) + frameOf(digits(100)), digits(100), digits(100)},
		{strings.Repeat("\x01", 280), strings.Repeat("\x00", 130), "\x01"},
	}
	for _, list := range lists {
		for after := range 4*len(list) + 1 {
			d := disk.New()
			j := opened(t, d)
			d.Fail(after)
			sure, maybe := run(t, j, nil, list)
			if len(sure) != min(after/4, len(list)) {
				t.Fatalf("%d records after %d calls", len(sure), after)
			}
			for _, survive := range allChoices(5) {
				next := d.Crash(survive)
				_, records := found(t, next, sure, maybe)
				failAgain(t, next, records, list)
			}
		}
	}
}

// failAgain lets the power of crashes of a disk fail at each call of Open and of what is appended then.
func failAgain(t *testing.T, d *disk.Disk, records, list []string) {
	t.Helper()
	for after := range 7 {
		next := d.Crash(nil)
		next.Fail(after)
		sure, maybe := records, []string(nil)
		if j, _, e := Open(next); e == api.OK {
			sure, maybe = run(t, j, records, backward(list))
		}
		for _, survive := range [][]int{nil, always, {0, 1}, {1, 0}, {1, 1, 0, 0}} {
			found(t, next.Crash(survive), sure, maybe)
		}
	}
}

// backward returns the list from its last element to its first one.
func backward(list []string) []string {
	turned := slices.Clone(list)
	slices.Reverse(turned)
	return turned
}

// TestP10_4ManyFailures repeats runs that end with a crash, some of them within Open, on disks with any contents.
func TestP10_4ManyFailures(t *testing.T) {
	for seed := range uint32(300) {
		below := samples.Below(seed)
		d := disk.New()
		if seed%2 == 1 {
			d = diskWith(randomContents(below)).Crash(always)
		}
		sure, _ := foundByWords(contentsOf(d))
		var maybe []string
		for range 15 {
			if below(3) == 0 {
				d.Fail(below(3))
			}
			j, records, e := Open(d)
			if e == api.OK {
				if _, found := found(t, d.Crash(nil), sure, maybe); !slices.Equal(found, records) {
					t.Fatalf("%q; want %q", records, found)
				}
				d.Fail(below(16) - 2)
				list := make([]string, below(5))
				for i := range list {
					list[i] = randomRecord(below)
				}
				sure, maybe = run(t, j, records, list)
			}
			d = d.Crash(randomSurvive(below))
		}
	}
}

// TestP10_4NoFailure crashes without a failure: nothing is lost, whatever survives.
func TestP10_4NoFailure(t *testing.T) {
	d := disk.New()
	j := opened(t, d)
	for n, r := range hardRecords() {
		appended(t, d, j, r)
		for _, survive := range [][]int{nil, always, {0, 1}} {
			opened(t, d.Crash(survive), hardRecords()[:n+1]...)
		}
	}
}

// TestP10_4WhatIsLeftOfARecordIsNotFound leaves the body of a record without its mark, with a whole frame exactly where the next record will end.
func TestP10_4WhatIsLeftOfARecordIsNotFound(t *testing.T) {
	for size := range 100 {
		next := digits(size)
		lost := strings.Repeat("x", len(frameOf(next))-len("\x01\xff\x01")) + framesOf("inner", "inner", digits(130))
		for _, left := range []int{1, 2} {
			d := disk.New()
			j := opened(t, d)
			d.Fail(left)
			returns(t, d, j, lost, api.ErrPower)
			d = d.Crash(always)
			if frame, ok := firstByWords(contentsOf(d)[len(frameOf(next)):]); !ok || frame != "inner" {
				t.Fatalf("no frame behind the next record of %d bytes", size)
			}
			j = opened(t, d)
			appended(t, d, j, next)
			opened(t, d, next)
			opened(t, d.Crash(nil), next)
		}
	}
}

// TestP10_4PartsDoNotCompleteARecord leaves a frame on the disk that lacks one part, which the next record has: whatever survives of that, the first one is not found.
func TestP10_4PartsDoNotCompleteARecord(t *testing.T) {
	lost := digits(250)
	f := frameOf(lost)
	for part := range 2 {
		from := 64 * (part + 1)
		next := strings.Repeat("y", from-3) + f[from:from+64] + strings.Repeat("z", 250-64-from+3)
		for after := range 4 {
			d := diskWith(f[:from] + strings.Repeat("x", 64) + f[from+64:])
			j := opened(t, d)
			d.Fail(after)
			returns(t, d, j, next, api.ErrPower)
			for _, survive := range allChoices(5) {
				found(t, d.Crash(survive), nil, []string{next})
			}
		}
	}
}

func TestP10_5OpenedTwice(t *testing.T) {
	for seed := range uint32(300) {
		below := samples.Below(seed)
		d := diskWith(randomContents(below))
		_, first, _ := Open(d)
		contents, calls := contentsOf(d), d.Calls()
		for range 3 {
			opened(t, d, first...)
			calls++
			if contentsOf(d) != contents || d.Calls() != calls {
				t.Fatalf("contents %q, %d calls after another Open; want %q, %d", contentsOf(d), d.Calls(), contents, calls)
			}
		}
		opened(t, d.Crash(nil), first...)
	}
}

// TestP10_5AnyRecords appends all short strings of bytes that mean something in frames, and hard ones.
func TestP10_5AnyRecords(t *testing.T) {
	records := slices.Concat(samples.Strings("\x00\x01\x80a", 4), hardRecords())
	for c := range 256 {
		records = append(records, string([]byte{byte(c)}))
	}
	for _, r := range hardRecords() {
		records = append(records, framesOf(r, r), frameOf(r)+"\x00", "\x00"+frameOf(r))
	}
	d := disk.New()
	j := opened(t, d)
	appended(t, d, j, records...)
	opened(t, d, records...)
	opened(t, d.Crash(nil), records...)
	for _, r := range records {
		alone := disk.New()
		appended(t, alone, opened(t, alone), r)
		opened(t, alone.Crash(nil), r)
	}
}

// TestP10_5JournalsGoOn appends with a new journal each time.
func TestP10_5JournalsGoOn(t *testing.T) {
	d := disk.New()
	for n, r := range hardRecords() {
		appended(t, d, opened(t, d, hardRecords()[:n]...), r)
	}
	opened(t, d, hardRecords()...)
}

func TestP1CallsEndForAllArguments(t *testing.T) {
	var none *Journal
	d := disk.New()
	j := opened(t, d)
	another := opened(t, d) // so that neither knows what the other one writes
	for _, k := range []*Journal{none, {}, j, another, j, another} {
		for _, r := range append(hardRecords(), strings.Repeat("x", most)) {
			k.Append(r)
			k.Many()
		}
	}
	Open(d)
	for seed := range uint32(2000) {
		words := samples.Words(seed, "\x00\x01\x02\x05\x7f\x80\xff")
		Open(diskWith("\x01" + words(30)))
	}
}

// TestP1ManyRecords would take minutes if Append took time for all records before it, or Open for more than each byte.
func TestP1ManyRecords(t *testing.T) {
	const many = 100000
	d := disk.New()
	j := opened(t, d)
	for n := range many {
		if e := j.Append(digits(n % 100)); e != api.OK {
			t.Fatalf("error %d of record %d", e, n)
		}
	}
	j, records, e := Open(d)
	if e != api.OK || j.Many() != many || len(records) != many || records[99999] != digits(99) {
		t.Errorf("error %d, %d records", e, j.Many())
	}
}

func TestP1FullOfFrames(t *testing.T) {
	many := most / 6
	d := diskWith(strings.Repeat(frameOf(""), many))
	j, records, e := Open(d)
	if e != api.OK || j.Many() != many || len(records) != many {
		t.Errorf("error %d, %d records; want %d", e, j.Many(), many)
	}
}
