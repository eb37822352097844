package journal

import (
	"encoding/binary"
	"hash/crc32"
	"slices"
	"strings"
	"testing"

	"mainline/api"
	"mainline/disk"
	"mainline/samples"
)

// most is the size that a disk cannot exceed.
const most = 16777216

// always is an argument of Crash with which all parts survive.
var always = []int{1}

// frameOf returns the frame of a record as the chapter's words describe it, without the package's functions and codec.
func frameOf(record string) string {
	number := string(binary.AppendUvarint(nil, uint64(len(record))))
	sum := binary.LittleEndian.AppendUint32(nil, crc32.ChecksumIEEE([]byte(number+record)))
	return "\x01" + number + record + string(sum)
}

// framesOf returns the frames of the records, one behind the other.
func framesOf(records ...string) string {
	var all strings.Builder
	for _, r := range records {
		all.WriteString(frameOf(r))
	}
	return all.String()
}

// firstByWords returns the record with whose frame s begins: it tries all lengths.
func firstByWords(s string) (string, bool) {
	for n := range len(s) {
		before := "\x01" + string(binary.AppendUvarint(nil, uint64(n)))
		if !strings.HasPrefix(s, before) || len(before)+n > len(s) {
			continue
		}
		if r := s[len(before) : len(before)+n]; strings.HasPrefix(s, frameOf(r)) {
			return r, true
		}
	}
	return "", false
}

// foundByWords returns the records of the frames of contents, and the end.
func foundByWords(contents string) ([]string, int) {
	var records []string
	end := 0
	for {
		r, ok := firstByWords(contents[end:])
		if !ok {
			return records, end
		}
		records = append(records, r)
		end += len(frameOf(r))
	}
}

// byWords is a journal that makes the calls of the disk as the chapter lists them.
type byWords struct {
	disk    *disk.Disk
	records []string
	end     int
	failed  bool
}

func openByWords(d *disk.Disk) (*byWords, api.Errno) {
	contents := d.Read(0, most)
	w := &byWords{disk: d}
	w.records, w.end = foundByWords(contents)
	if w.end < len(contents) && contents[w.end] != 0 {
		if e := d.Write(w.end, "\x00"); e != api.OK {
			return nil, e
		}
	}
	if e := d.Sync(); e != api.OK {
		return nil, e
	}
	return w, api.OK
}

func (w *byWords) add(record string) api.Errno {
	b := frameOf(record)[1:]
	switch {
	case w.failed:
		return api.ErrPower
	case w.end+len(b)+2 > most:
		return api.ErrMany
	}
	for n := range 4 {
		if w.step(n, b) != api.OK {
			w.failed = true
			return api.ErrPower
		}
	}
	w.records = append(w.records, record)
	w.end += 1 + len(b)
	return api.OK
}

func (w *byWords) step(n int, b string) api.Errno {
	switch n {
	case 0:
		return w.disk.Write(w.end+1, b+"\x00")
	case 2:
		return w.disk.Write(w.end, "\x01")
	}
	return w.disk.Sync()
}

// diskWith returns a disk with these contents, none of them synced.
func diskWith(contents string) *disk.Disk {
	d := disk.New()
	d.Write(0, contents)
	return d
}

// contentsOf returns all that can be read from a disk.
func contentsOf(d *disk.Disk) string {
	return d.Read(0, most)
}

// syncedOf returns the contents of a disk at its last Sync.
func syncedOf(d *disk.Disk) string {
	return contentsOf(d.Crash(nil))
}

// opened returns the journal on a disk, which must have these records.
func opened(t *testing.T, d *disk.Disk, want ...string) *Journal {
	t.Helper()
	j, records, e := Open(d)
	if j == nil || e != api.OK || !slices.Equal(records, want) {
		t.Fatalf("Open of %.200q: journal %t, %.200q, error %d; want %.200q", contentsOf(d), j != nil, records, e, want)
	}
	if j.Many() != len(want) {
		t.Fatalf("Many is %d after Open with %d records", j.Many(), len(want))
	}
	return j
}

// returns checks the error of Append, and how it changes Many and the number of calls.
func returns(t *testing.T, d *disk.Disk, j *Journal, record string, want api.Errno) {
	t.Helper()
	many, calls := j.Many(), d.Calls()
	e := j.Append(record)
	if e != want {
		t.Fatalf("error %d of Append of %d bytes, %.50q; want %d", e, len(record), record, want)
	}
	if want == api.OK {
		many, calls = many+1, calls+4
	}
	if j.Many() != many {
		t.Fatalf("Many is %d after an Append with error %d; want %d", j.Many(), e, many)
	}
	if d.Calls() != calls && want != api.ErrPower {
		t.Fatalf("%d calls after an Append with error %d; want %d", d.Calls(), e, calls)
	}
}

// refuses checks that Append returns an error without a call that changes the disk, or what a crash leaves of it.
func refuses(t *testing.T, d *disk.Disk, j *Journal, record string, want api.Errno) {
	t.Helper()
	contents, synced, later, calls := contentsOf(d), syncedOf(d), contentsOf(d.Crash(always)), d.Calls()
	returns(t, d, j, record, want)
	if d.Calls() != calls || contentsOf(d) != contents || syncedOf(d) != synced || contentsOf(d.Crash(always)) != later {
		t.Fatalf("Append of %.50q with error %d changes the disk", record, want)
	}
}

// appended appends the records one after the other, each without an error.
func appended(t *testing.T, d *disk.Disk, j *Journal, records ...string) {
	t.Helper()
	for _, r := range records {
		returns(t, d, j, r, api.OK)
	}
}

// hardRecords returns records that could be mistaken for something else, or that are just shorter or longer than what one part, or one group of a number, holds.
func hardRecords() []string {
	all := []string{"", "ab", "\x00", "\x01", "\x01\x00", "\xff\x80", framesOf("inner"), framesOf("", ""), frameOf("a")[:6], frameOf("")[1:],
		framesOf(framesOf("innermost")), strings.Repeat(frameOf(""), 30), strings.Repeat("\x01", 150), strings.Repeat("\x00", 150)}
	for _, n := range []int{1, 57, 58, 59, 63, 64, 65, 127, 128, 129, 200, 255, 256, 300} {
		all = append(all, digits(n))
	}
	return all
}

// digits returns a string of so many bytes of which neighbours differ.
func digits(n int) string {
	return strings.Repeat("123456789", n/9+1)[:n]
}

// randomRecord returns a hard record, or a frame in the midst of one.
func randomRecord(below func(int) int) string {
	hard := hardRecords()
	r := hard[below(len(hard))]
	if below(3) > 0 {
		return r
	}
	return digits(below(90)) + frameOf(hard[below(len(hard))]) + r[:below(len(r)+1)]
}

// randomContents returns frames, mostly whole ones first, with other bytes behind and between.
func randomContents(below func(int) int) string {
	contents := ""
	for range below(6) {
		f := frameOf(randomRecord(below))
		switch below(8) {
		case 0:
			f = f[:below(len(f))]
		case 1:
			at := below(len(f))
			f = f[:at] + string([]byte{f[at] ^ 1<<below(8)}) + f[at+1:]
		case 2:
			f = strings.Repeat("\x00", below(9))
		case 3:
			f = string([]byte{byte(below(256)), byte(below(256)), byte(below(256))})
		}
		contents += f
	}
	return contents
}

// randomSurvive returns an argument of Crash.
func randomSurvive(below func(int) int) []int {
	survive := make([]int, below(7))
	for i := range survive {
		survive[i] = below(2)
	}
	return survive
}

// twins are a journal and one by words, each on a disk of its own that was changed by the same calls.
type twins struct {
	below func(int) int
	d, e  *disk.Disk
	j     *Journal // nil after an Open with an error
	w     *byWords
}

// open opens both disks, and compares what is found.
func (p *twins) open(t *testing.T) {
	t.Helper()
	before := contentsOf(p.d)
	j, records, got := Open(p.d)
	w, want := openByWords(p.e)
	if got != want || (j == nil) != (want != api.OK) || want != api.OK && len(records) > 0 {
		t.Fatalf("Open of %.300q: journal %t, %.200q, error %d; want error %d", before, j != nil, records, got, want)
	}
	if want == api.OK && !slices.Equal(records, w.records) {
		t.Fatalf("Open of %.300q: %.200q; want %.200q", before, records, w.records)
	}
	p.j, p.w = j, w
}

// agree compares the disks, and what crashes leave of them.
func (p *twins) agree(t *testing.T) {
	t.Helper()
	if got, want := contentsOf(p.d), contentsOf(p.e); got != want {
		t.Fatalf("contents %.300q; want %.300q", got, want)
	}
	if p.d.Calls() != p.e.Calls() {
		t.Fatalf("%d calls; want %d", p.d.Calls(), p.e.Calls())
	}
	for _, survive := range [][]int{nil, always, randomSurvive(p.below)} {
		if got, want := contentsOf(p.d.Crash(survive)), contentsOf(p.e.Crash(survive)); got != want {
			t.Fatalf("contents %.300q after a crash with %v; want %.300q", got, survive, want)
		}
	}
	if p.j != nil && p.j.Many() != len(p.w.records) {
		t.Fatalf("Many is %d; want %d", p.j.Many(), len(p.w.records))
	}
}

// act does one thing to both journals or disks.
func (p *twins) act(t *testing.T) {
	t.Helper()
	switch p.below(9) {
	case 0:
		after := p.below(10) - 2
		p.d.Fail(after)
		p.e.Fail(after)
	case 1:
		survive := randomSurvive(p.below)
		p.d, p.e = p.d.Crash(survive), p.e.Crash(survive)
		p.open(t)
	case 2:
		p.open(t)
	default:
		if p.j == nil {
			p.d.Fail(-1)
			p.e.Fail(-1)
			p.open(t)
			return
		}
		r := randomRecord(p.below)
		if got, want := p.j.Append(r), p.w.add(r); got != want {
			t.Fatalf("error %d of Append of %.100q; want %d", got, r, want)
		}
	}
}

// inManyRuns lets random things be done to journals, first on a disk with these contents, and compares them after each step.
func inManyRuns(t *testing.T, contents func(below func(int) int) string) {
	t.Helper()
	for seed := range uint32(300) {
		p := twins{below: samples.Below(seed)}
		start := contents(p.below)
		p.d, p.e = diskWith(start), diskWith(start)
		p.open(t)
		for range 20 {
			p.agree(t)
			p.act(t)
		}
		p.agree(t)
	}
}
