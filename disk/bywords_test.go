package disk

import (
	"math"
	"slices"
	"strings"
	"testing"

	"mainline/api"
	"mainline/samples"
)

// most is the greatest offset behind a Write.
const most = 16777216

// always is an argument of Crash with which all parts survive.
var always = []int{1}

// call is a call of Write, or of Sync.
type call struct {
	isSync bool
	off    int
	text   string
}

func write(off int, text string) call {
	return call{off: off, text: text}
}

var sync = call{isSync: true}

// byWords follows the chapter's words as literally as possible: it keeps all calls that returned OK, and finds everything from them, byte by byte.
type byWords struct {
	before string // the contents at the start
	done   []call
	fail   int // the argument of the last call of Fail
	since  int // how many calls had returned OK then
}

func newByWords() *byWords {
	return &byWords{fail: -1}
}

func (w *byWords) isOff() bool {
	return w.fail >= 0 && len(w.done)-w.since >= w.fail
}

func (w *byWords) setFail(after int) {
	w.fail, w.since = after, len(w.done)
}

// do carries out a call, and returns its error.
func (w *byWords) do(c call) api.Errno {
	if !c.isSync && (c.off < 0 || c.off > most || c.off+len(c.text) > most) {
		return api.ErrArg
	}
	if w.isOff() {
		return api.ErrPower
	}
	w.done = append(w.done, c)
	return api.OK
}

// withWritten returns contents to which a string is written.
func withWritten(contents string, off int, text string) string {
	bytes := []byte(contents)
	for len(bytes) < off+len(text) {
		bytes = append(bytes, 0)
	}
	for i := range len(text) {
		bytes[off+i] = text[i]
	}
	return string(bytes)
}

func (w *byWords) contentsAfter(calls int) string {
	contents := w.before
	for _, c := range w.done[:calls] {
		if !c.isSync {
			contents = withWritten(contents, c.off, c.text)
		}
	}
	return contents
}

func (w *byWords) contents() string {
	return w.contentsAfter(len(w.done))
}

func (w *byWords) read(off, n int) string {
	contents := w.contents()
	var read strings.Builder
	for i := range contents {
		if off >= 0 && n >= 1 && i >= off && i-off < n {
			read.WriteByte(contents[i])
		}
	}
	return read.String()
}

// lastSync returns how many calls there were up to the last Sync.
func (w *byWords) lastSync() int {
	for n := len(w.done); n > 0; n-- {
		if w.done[n-1].isSync {
			return n
		}
	}
	return 0
}

// partsOf returns the longest pieces within one sector of the string that a call writes.
func partsOf(c call) []call {
	var parts []call
	for i := range len(c.text) {
		off := c.off + i
		if i > 0 && off/64 == (off-1)/64 {
			parts[len(parts)-1].text += c.text[i : i+1]
		} else {
			parts = append(parts, write(off, c.text[i:i+1]))
		}
	}
	return parts
}

// unsyncedParts returns the parts of all Writes after the last Sync.
func (w *byWords) unsyncedParts() []call {
	var parts []call
	for _, c := range w.done[w.lastSync():] {
		parts = append(parts, partsOf(c)...)
	}
	return parts
}

func (w *byWords) crash(survive []int) *byWords {
	contents := w.contentsAfter(w.lastSync())
	for k, part := range w.unsyncedParts() {
		if len(survive) > 0 && survive[k%len(survive)]&1 == 1 {
			contents = withWritten(contents, part.off, part.text)
		}
	}
	crashed := newByWords()
	crashed.before = contents
	return crashed
}

// do makes a call on a disk, and returns its error.
func do(d *Disk, c call) api.Errno {
	if c.isSync {
		return d.Sync()
	}
	return d.Write(c.off, c.text)
}

// done returns a disk on which these calls have returned OK.
func done(t *testing.T, calls ...call) *Disk {
	t.Helper()
	d := New()
	for _, c := range calls {
		returns(t, d, c, api.OK)
	}
	return d
}

// returns checks the error of a call, and how it changes the size and the number of calls.
func returns(t *testing.T, d *Disk, c call, want api.Errno) {
	t.Helper()
	size, calls := d.Size(), d.Calls()
	if want == api.OK {
		calls++
		size = max(size, c.off+len(c.text))
	}
	if e := do(d, c); e != want {
		t.Fatalf("error %d of sync %t at %d with %d bytes; want %d", e, c.isSync, c.off, len(c.text), want)
	}
	if d.Size() != size || d.Calls() != calls {
		t.Fatalf("%d bytes and %d calls after the error %d of sync %t at %d with %d bytes; want %d, %d", d.Size(), d.Calls(), want, c.isSync, c.off, len(c.text), size, calls)
	}
}

// holds checks the contents of a disk.
func holds(t *testing.T, d *Disk, want string) {
	t.Helper()
	if got := d.Read(0, math.MaxInt); got != want || d.Size() != len(want) {
		t.Fatalf("%.200q, %d bytes; want %.200q, %d", got, d.Size(), want, len(want))
	}
}

// keeps checks what a crash leaves of a disk, and that the disk does not change.
func keeps(t *testing.T, d *Disk, survive []int, want string) {
	t.Helper()
	before, calls, given := d.Read(0, most), d.Calls(), slices.Clone(survive)
	holds(t, d.Crash(survive), want)
	holds(t, d, before)
	if d.Calls() != calls {
		t.Fatalf("Crash changes %d calls of the disk to %d", calls, d.Calls())
	}
	if !slices.Equal(survive, given) {
		t.Fatalf("Crash changes its argument %v to %v", given, survive)
	}
}

// isLikeNew checks that a disk is as New returns it, apart from its contents; it makes calls that change them.
func isLikeNew(t *testing.T, d *Disk, contents string) {
	t.Helper()
	holds(t, d, contents)
	if d.Calls() != 0 {
		t.Fatalf("%d calls of a new disk", d.Calls())
	}
	keeps(t, d, nil, contents)
	keeps(t, d, always, contents)
	for range 100 {
		returns(t, d, sync, api.OK)
	}
	returns(t, d, write(len(contents), "end"), api.OK)
	holds(t, d, contents+"end")
	keeps(t, d, nil, contents)
	keeps(t, d, always, contents+"end")
}

// zeros returns a string of so many zeros.
func zeros(n int) string {
	return strings.Repeat("\x00", n)
}

// digits returns a string of so many bytes of which neighbours differ.
func digits(n int) string {
	return strings.Repeat("123456789", n/9+1)[:n]
}

// strangeNumbers returns numbers that are negative or large.
func strangeNumbers() []int {
	return []int{-1, -2, -63, -64, -65, most + 1, most + 64, math.MaxInt, math.MaxInt - 1, math.MinInt, math.MinInt + 1, 1 << 31, 1<<31 - 1, 1 << 32, 1<<32 + 1, -1 << 31, -1 << 32, 1 << 62}
}

// randomCall returns a call near the start of a disk, mostly a Write that may go over several sectors.
func randomCall(below func(int) int) call {
	switch below(12) {
	case 0, 1:
		return sync
	case 2:
		return write(below(250), "")
	case 3:
		return write([]int{-1, -64, most, most + 1, math.MaxInt, math.MinInt}[below(6)], "strange")
	}
	letter := "abcdefgh"[below(8):]
	return write(below(200), strings.Repeat(letter[:1], 1+below([]int{3, 20, 64, 150}[below(4)])))
}

// randomSurvive returns an argument of Crash, also with numbers that are large or negative.
func randomSurvive(below func(int) int) []int {
	survive := make([]int, below(6))
	for i := range survive {
		survive[i] = []int{0, 1, 0, 1, 2, 3, -1, -2, math.MaxInt, math.MinInt}[below(10)]
	}
	return survive
}

// inManyRuns makes random calls on a disk and by words, and calls check after each of them. Now and then it goes on with the disk that a crash left.
func inManyRuns(t *testing.T, check func(d *Disk, w *byWords, below func(int) int)) {
	t.Helper()
	for seed := range uint32(400) {
		below := samples.Below(seed)
		d, w := New(), newByWords()
		for range 25 {
			switch below(12) {
			case 0:
				after := below(8) - 2
				d.Fail(after)
				w.setFail(after)
			case 1:
				survive := randomSurvive(below)
				d, w = d.Crash(survive), w.crash(survive)
			default:
				c := randomCall(below)
				if got, want := do(d, c), w.do(c); got != want {
					t.Fatalf("seed %d: error %d of %+v after %+v; want %d", seed, got, c, w.done, want)
				}
			}
			check(d, w, below)
		}
	}
}
