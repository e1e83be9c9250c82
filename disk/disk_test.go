package disk_test

import (
	"bytes"
	"fmt"
	"math"
	"math/rand/v2"
	"regexp"
	"slices"
	"strings"
	"testing"

	"taximeter/api"
	"taximeter/disk"
)

// longest is as long as a name may be.
var longest = strings.Repeat("z", api.MaxTarget)

// wrongNames are no target's names.
func wrongNames() []string {
	return []string{
		"", longest + "z", "A", "aB", "a b", " a", "a ", "a/b", "a_b", ".a", ":1", ".", "a\x00", "a\n", "\xff", "a\x80", "\u00e4", "a\u0131",
		strings.Repeat("a", 1<<10),
	}
}

func wantErr(t *testing.T, what string, got, want api.Errno) {
	t.Helper()
	if got != want {
		t.Errorf("%s answers %d; want %d", what, got, want)
	}
}

// do does a call that is to answer OK.
func do(t *testing.T, err api.Errno) {
	t.Helper()
	if err != api.OK {
		t.Fatalf("a call answers %d; want OK", err)
	}
}

func wantRead(t *testing.T, d *disk.Disk, name, want string) {
	t.Helper()
	if b, err := d.Read(name); string(b) != want || err != api.OK {
		t.Errorf("Read(%q) = %q, %d; want %q", name, b, err, want)
	}
}

func wantNoRead(t *testing.T, d *disk.Disk, name string, want api.Errno) {
	t.Helper()
	if b, err := d.Read(name); b != nil || err != want {
		t.Errorf("Read(%q) = %q, %d; want nothing, %d", name, b, err, want)
	}
}

// told tells files as name:sure|rest.
func told(l []api.File) string {
	s := ""
	for _, f := range l {
		s += fmt.Sprintf("%s:%s|%s ", f.Name, f.Data[:f.Sure], f.Data[f.Sure:])
	}
	return strings.TrimSuffix(s, " ")
}

// wantFiles holds a disk's files, and their names and size, against what they are told as.
func wantFiles(t *testing.T, d *disk.Disk, want string) {
	t.Helper()
	l := d.Files()
	if got := told(l); got != want {
		t.Errorf("Files() = %q; want %q", got, want)
	}
	var names []string
	size := 0
	for _, f := range l {
		names = append(names, f.Name)
		size += len(f.Data)
	}
	if got := d.List(); !slices.Equal(got, names) {
		t.Errorf("List() = %q; want %q", got, names)
	}
	if got := d.Size(); got != size {
		t.Errorf("Size() = %d; want %d", got, size)
	}
}

func wantCalls(t *testing.T, d *disk.Disk, want uint64) {
	t.Helper()
	if got := d.Calls(); got != want {
		t.Errorf("Calls() = %d; want %d", got, want)
	}
}

func wantDown(t *testing.T, d *disk.Disk, want bool) {
	t.Helper()
	if got := d.Down(); got != want {
		t.Errorf("Down() = %t; want %t", got, want)
	}
}

// three is a disk whose files are sure in part (a), wholly (b), and not at all (c).
func three(t *testing.T, capacity int) *disk.Disk {
	t.Helper()
	d := disk.New(capacity)
	do(t, d.Append("c", []byte("789")))
	do(t, d.Append("a", []byte("xyz")))
	do(t, d.Append("b", []byte("123")))
	do(t, d.Sync("a"))
	do(t, d.Sync("b"))
	do(t, d.Append("a", []byte("uv")))
	wantFiles(t, d, "a:xyz|uv b:123| c:|789")
	return d
}

// P9.1: New, Append, Sync, Rename, Remove

func TestANewDisk(t *testing.T) {
	for _, capacity := range []int{0, 1, -1, 100, math.MaxInt, math.MinInt} {
		d := disk.New(capacity)
		wantFiles(t, d, "")
		wantCalls(t, d, 0)
		wantDown(t, d, false)
	}
	a, b := disk.New(9), disk.New(9)
	do(t, a.Append("a", []byte("x")))
	wantFiles(t, b, "")
}

func TestAppend(t *testing.T) {
	d := disk.New(100)
	do(t, d.Append("b", []byte("12")))
	wantFiles(t, d, "b:|12")
	do(t, d.Append("b", []byte("3")))
	wantFiles(t, d, "b:|123")
	do(t, d.Append("a.1:2-", []byte{0, 255}))
	wantFiles(t, d, "a.1:2-:|\x00\xff b:|123")
	do(t, d.Append("b", nil))
	do(t, d.Append("b", []byte{}))
	wantFiles(t, d, "a.1:2-:|\x00\xff b:|123")
	do(t, d.Append(longest, []byte("x")))
	wantRead(t, d, longest, "x")
}

func TestAppendOfNoBytesMakesAFile(t *testing.T) {
	for _, capacity := range []int{-1, 0, 5} {
		d := disk.New(capacity)
		do(t, d.Append("a", nil))
		do(t, d.Append("b", []byte{}))
		wantFiles(t, d, "a:| b:|")
		wantRead(t, d, "a", "")
		do(t, d.Append("a", nil))
		do(t, d.Sync("a"))
		wantFiles(t, d, "a:| b:|")
		d.Crash(0)
		wantFiles(t, d, "a:| b:|")
	}
}

func TestCapacity(t *testing.T) {
	for _, capacity := range []int{math.MinInt, -1, 0} {
		d := disk.New(capacity)
		wantErr(t, "Append of a byte", d.Append("a", []byte("x")), api.ErrFull)
		wantFiles(t, d, "")
	}
	d := disk.New(4)
	wantErr(t, "Append of 5 to 0 of 4", d.Append("a", []byte("12345")), api.ErrFull)
	wantFiles(t, d, "")
	do(t, d.Append("a", []byte("123")))
	wantErr(t, "Append of 2 to 3 of 4", d.Append("a", []byte("45")), api.ErrFull)
	wantErr(t, "Append of 2 to 3 of 4", d.Append("b", []byte("45")), api.ErrFull)
	wantFiles(t, d, "a:|123")
	do(t, d.Append("b", []byte("4")))
	wantErr(t, "Append of 1 to 4 of 4", d.Append("b", []byte("5")), api.ErrFull)
	do(t, d.Append("c", nil))
	do(t, d.Append("b", nil))
	wantFiles(t, d, "a:|123 b:|4 c:|")

	// What is gone leaves room: by Remove, by Rename, by a crash.
	do(t, d.Rename("b", "a"))
	wantErr(t, "Append of 4 to 1 of 4", d.Append("c", []byte("5678")), api.ErrFull)
	do(t, d.Append("c", []byte("567")))
	wantFiles(t, d, "a:|4 c:|567")
	do(t, d.Remove("c"))
	do(t, d.Append("a", []byte("123")))
	d.Crash(1)
	d.Up()
	wantErr(t, "Append of 4 to 1 of 4", d.Append("a", []byte("5678")), api.ErrFull)
	do(t, d.Append("a", []byte("567")))
	wantFiles(t, d, "a:4|567")

	// One of whole disks, at once.
	d = disk.New(1 << 16)
	wantErr(t, "Append of one too many", d.Append("a", make([]byte, 1<<16+1)), api.ErrFull)
	do(t, d.Append("a", make([]byte, 1<<16)))
	wantErr(t, "Append of one more", d.Append("a", make([]byte, 1)), api.ErrFull)
	d = disk.New(math.MaxInt)
	do(t, d.Append("a", make([]byte, 1<<16)))
	do(t, d.Append("a", make([]byte, 1<<16)))
	if d.Size() != 1<<17 {
		t.Errorf("Size() = %d; want %d", d.Size(), 1<<17)
	}
}

// full is a disk with as many files as may be, each of which has one byte.
func full(t *testing.T, capacity int) *disk.Disk {
	t.Helper()
	d := disk.New(capacity)
	for i := range api.MaxFiles {
		do(t, d.Append(fmt.Sprint("f", i), []byte("x")))
	}
	return d
}

func TestMaxFiles(t *testing.T) {
	d := full(t, 1<<20)
	if len(d.List()) != api.MaxFiles || len(d.Files()) != api.MaxFiles || d.Size() != api.MaxFiles {
		t.Fatalf("%d names, %d files, %d bytes; want %d", len(d.List()), len(d.Files()), d.Size(), api.MaxFiles)
	}
	wantErr(t, "Append to one more", d.Append("one", []byte("x")), api.ErrRoom)
	wantErr(t, "Append of nothing to one more", d.Append("one", nil), api.ErrRoom)
	wantNoRead(t, d, "one", api.ErrNone)
	if len(d.List()) != api.MaxFiles {
		t.Errorf("%d files; want %d", len(d.List()), api.MaxFiles)
	}
	do(t, d.Append("f0", []byte("yz")))
	wantRead(t, d, "f0", "xyz")

	do(t, d.Rename("f0", "one"))
	wantErr(t, "Append to f0", d.Append("f0", nil), api.ErrRoom)
	do(t, d.Rename("one", "f1"))
	do(t, d.Append("f0", []byte("new")))
	wantErr(t, "Append to one", d.Append("one", nil), api.ErrRoom)
	do(t, d.Remove("f2"))
	do(t, d.Append("one", nil))
	wantErr(t, "Append to f2", d.Append("f2", nil), api.ErrRoom)
	d.Crash(0)
	d.Up()
	wantErr(t, "Append to f2 behind a crash", d.Append("f2", nil), api.ErrRoom)
	wantRead(t, d, "one", "")
}

func TestSync(t *testing.T) {
	d := disk.New(100)
	do(t, d.Append("a", []byte("12")))
	do(t, d.Append("b", []byte("34")))
	do(t, d.Sync("a"))
	wantFiles(t, d, "a:12| b:|34")
	do(t, d.Sync("a"))
	wantFiles(t, d, "a:12| b:|34")
	do(t, d.Append("a", []byte("5")))
	wantFiles(t, d, "a:12|5 b:|34")
	do(t, d.Sync("b"))
	do(t, d.Sync("a"))
	wantFiles(t, d, "a:125| b:34|")
}

func TestRename(t *testing.T) {
	d := three(t, 100)
	do(t, d.Rename("a", "d"))
	wantFiles(t, d, "b:123| c:|789 d:xyz|uv")
	wantNoRead(t, d, "a", api.ErrNone)
	do(t, d.Append("d", []byte("w")))
	wantRead(t, d, "d", "xyzuvw")
	wantErr(t, "Rename of what was renamed", d.Rename("a", "e"), api.ErrNone)

	// In the place of one that is there, be it sure or not.
	do(t, d.Rename("d", "b"))
	wantFiles(t, d, "b:xyz|uvw c:|789")
	do(t, d.Rename("c", "b"))
	wantFiles(t, d, "b:|789")
	do(t, d.Sync("b"))
	do(t, d.Append("b", []byte("0")))

	// To itself: nothing is lost.
	do(t, d.Rename("b", "b"))
	wantFiles(t, d, "b:789|0")
	do(t, d.Rename("b", longest))
	wantFiles(t, d, longest+":789|0")
	do(t, d.Rename(longest, "a"))

	// The old name is free, and what is made by it another file.
	do(t, d.Rename("a", "b"))
	do(t, d.Append("a", []byte("new")))
	do(t, d.Sync("a"))
	wantFiles(t, d, "a:new| b:789|0")
}

func TestRemove(t *testing.T) {
	d := three(t, 100)
	do(t, d.Remove("a"))
	wantFiles(t, d, "b:123| c:|789")
	wantErr(t, "Remove of what is removed", d.Remove("a"), api.ErrNone)
	wantErr(t, "Sync of what is removed", d.Sync("a"), api.ErrNone)
	wantErr(t, "Rename of what is removed", d.Rename("a", "b"), api.ErrNone)
	wantNoRead(t, d, "a", api.ErrNone)

	// Made again it is new: nothing of it is sure.
	do(t, d.Append("a", []byte("12345")))
	wantFiles(t, d, "a:|12345 b:123| c:|789")
	do(t, d.Remove("c"))
	do(t, d.Remove("b"))
	do(t, d.Append("b", nil))
	d.Crash(0)
	wantFiles(t, d, "a:| b:|")
	d.Up()
	do(t, d.Remove("a"))
	do(t, d.Remove("b"))
	wantFiles(t, d, "")
}

func TestWrongNames(t *testing.T) {
	for _, bad := range wrongNames() {
		d := three(t, 11)
		at := d.Calls()
		wantErr(t, fmt.Sprintf("Append(%q)", bad), d.Append(bad, nil), api.ErrName)
		wantErr(t, fmt.Sprintf("Append(%q) of too much", bad), d.Append(bad, make([]byte, 99)), api.ErrName)
		wantErr(t, fmt.Sprintf("Sync(%q)", bad), d.Sync(bad), api.ErrName)
		wantErr(t, fmt.Sprintf("Remove(%q)", bad), d.Remove(bad), api.ErrName)
		wantErr(t, fmt.Sprintf("Rename(%q, a)", bad), d.Rename(bad, "a"), api.ErrName)
		wantErr(t, fmt.Sprintf("Rename(%q, new)", bad), d.Rename(bad, "new"), api.ErrName)
		wantErr(t, fmt.Sprintf("Rename(a, %q)", bad), d.Rename("a", bad), api.ErrName)
		wantErr(t, fmt.Sprintf("Rename(none, %q)", bad), d.Rename("none", bad), api.ErrName)
		wantErr(t, fmt.Sprintf("Rename(%q, %q)", bad, bad), d.Rename(bad, bad), api.ErrName)
		wantNoRead(t, d, bad, api.ErrNone) // Read answers no ErrName
		wantFiles(t, d, "a:xyz|uv b:123| c:|789")
		wantCalls(t, d, at+9)
	}
}

func TestNoSuchFile(t *testing.T) {
	d := three(t, 100)
	at := d.Calls()
	for _, s := range []string{"d", "aa", "0", "-", longest} {
		wantErr(t, "Sync", d.Sync(s), api.ErrNone)
		wantErr(t, "Remove", d.Remove(s), api.ErrNone)
		wantErr(t, "Rename to a new one", d.Rename(s, "new"), api.ErrNone)
		wantErr(t, "Rename to one that is there", d.Rename(s, "a"), api.ErrNone)
		wantErr(t, "Rename to itself", d.Rename(s, s), api.ErrNone)
		wantNoRead(t, d, s, api.ErrNone)
	}
	wantFiles(t, d, "a:xyz|uv b:123| c:|789")
	wantCalls(t, d, at+5*5)
}

// Of errors that apply together the first is answered: ErrCrash, ErrName, then ErrNone, or ErrRoom and ErrFull.
func TestWhichErrorIsFirst(t *testing.T) {
	d := full(t, api.MaxFiles)
	many := make([]byte, 5)
	wantErr(t, "no room beside too many bytes", d.Append("one", many), api.ErrRoom)
	wantErr(t, "a wrong name beside both", d.Append("One", many), api.ErrName)
	wantErr(t, "too many bytes alone", d.Append("f7", many), api.ErrFull)
	for range 2 { // first as it crashes, then as it is down
		d.Arm(0, 0)
		wantErr(t, "Append(One)", d.Append("One", many), api.ErrCrash)
		wantErr(t, "Append(one)", d.Append("one", many), api.ErrCrash)
		wantErr(t, "Append(f7)", d.Append("f7", many), api.ErrCrash)
		wantErr(t, "Append(f7) of nothing", d.Append("f7", nil), api.ErrCrash)
	}
	for _, call := range []func() api.Errno{
		func() api.Errno { return d.Sync("One") },
		func() api.Errno { return d.Sync("one") },
		func() api.Errno { return d.Sync("f7") },
		func() api.Errno { return d.Remove("One") },
		func() api.Errno { return d.Remove("one") },
		func() api.Errno { return d.Remove("f7") },
		func() api.Errno { return d.Rename("One", "f7") },
		func() api.Errno { return d.Rename("f7", "One") },
		func() api.Errno { return d.Rename("one", "f7") },
		func() api.Errno { return d.Rename("f7", "f7") },
		func() api.Errno { _, err := d.Read("One"); return err },
		func() api.Errno { _, err := d.Read("one"); return err },
		func() api.Errno { _, err := d.Read("f7"); return err },
	} {
		wantErr(t, "a call of a disk that is down", call(), api.ErrCrash)
	}
}

// What Append is given is neither changed nor kept.
func TestWhatIsHandedIn(t *testing.T) {
	d := disk.New(100)
	room := []byte("12345678")
	b := room[:4]
	do(t, d.Append("a", b))
	do(t, d.Append("b", b))
	copy(b, "wxyz")
	do(t, d.Append("a", b[:2]))
	do(t, d.Append("b", []byte("9")))
	wantFiles(t, d, "a:|1234wx b:|12349")
	if string(room) != "wxyz5678" {
		t.Errorf("what was handed in is %q", room)
	}
}

// P9.2: Arm, Crash, Up, Down

// calls are all calls of a disk, those that answer OK and those that err.
func calls(d *disk.Disk) []func() api.Errno {
	return []func() api.Errno{
		func() api.Errno { return d.Append("a", []byte("1")) },
		func() api.Errno { return d.Append("A", nil) },
		func() api.Errno { return d.Append("a", make([]byte, 1000)) },
		func() api.Errno { return d.Sync("a") },
		func() api.Errno { return d.Sync("none") },
		func() api.Errno { return d.Sync("") },
		func() api.Errno { return d.Rename("a", "a") },
		func() api.Errno { return d.Rename("none", "a") },
		func() api.Errno { return d.Rename("a", "A") },
		func() api.Errno { return d.Remove("none") },
		func() api.Errno { return d.Remove("A") },
		func() api.Errno { return d.Remove("b") },
	}
}

func TestArmedDiskDoesSoManyCalls(t *testing.T) {
	for n := range 50 {
		d := disk.New(100)
		do(t, d.Append("a", nil))
		do(t, d.Append("b", nil))
		all := calls(d)
		d.Arm(uint64(n), 0)
		for i := range n {
			if err := all[i%len(all)](); err == api.ErrCrash || d.Down() {
				t.Fatalf("call %d of a disk that is armed with %d answers %d", i, n, err)
			}
		}
		wantCalls(t, d, uint64(2+n))
		wantErr(t, "the call behind them", all[n%len(all)](), api.ErrCrash)
		wantDown(t, d, true)
		wantCalls(t, d, uint64(2+n)) // the one by which it crashes is none of them
		for _, call := range all {
			wantErr(t, "a call of a disk that is down", call(), api.ErrCrash)
		}
		wantCalls(t, d, uint64(2+n))
		d.Up()
		for i, call := range all { // it is armed no more
			if err := call(); err == api.ErrCrash {
				t.Fatalf("call %d behind the crash answers %d", i, err)
			}
		}
		wantCalls(t, d, uint64(2+n+len(all)))
	}
}

// The call by which a disk crashes is not done, whichever it is.
func TestTheCallThatCrashesIsNotDone(t *testing.T) {
	for i, call := range []func(d *disk.Disk) api.Errno{
		func(d *disk.Disk) api.Errno { return d.Append("a", []byte("w")) },
		func(d *disk.Disk) api.Errno { return d.Append("d", nil) },
		func(d *disk.Disk) api.Errno { return d.Sync("a") },
		func(d *disk.Disk) api.Errno { return d.Sync("c") },
		func(d *disk.Disk) api.Errno { return d.Rename("a", "d") },
		func(d *disk.Disk) api.Errno { return d.Rename("c", "b") },
		func(d *disk.Disk) api.Errno { return d.Remove("a") },
		func(d *disk.Disk) api.Errno { return d.Remove("b") },
		func(d *disk.Disk) api.Errno { return d.Remove("c") },
	} {
		d := three(t, 100)
		d.Arm(0, 1)
		wantErr(t, fmt.Sprint("call ", i), call(d), api.ErrCrash)
		wantDown(t, d, true)
		wantFiles(t, d, "a:xyzu| b:123| c:7|")
		d.Up()
		wantFiles(t, d, "a:xyzu| b:123| c:7|")
	}
}

func TestWhatACrashKeeps(t *testing.T) {
	for _, c := range []struct {
		keep int
		want string
	}{
		{math.MinInt, "a:xyz| b:123| c:|"},
		{-5, "a:xyz| b:123| c:|"},
		{-1, "a:xyz| b:123| c:|"},
		{0, "a:xyz| b:123| c:|"},
		{1, "a:xyzu| b:123| c:7|"},
		{2, "a:xyzuv| b:123| c:78|"},
		{3, "a:xyzuv| b:123| c:789|"},
		{4, "a:xyzuv| b:123| c:789|"},
		{100, "a:xyzuv| b:123| c:789|"},
		{math.MaxInt - 2, "a:xyzuv| b:123| c:789|"},
		{math.MaxInt, "a:xyzuv| b:123| c:789|"},
	} {
		d := three(t, 100)
		d.Crash(c.keep)
		wantDown(t, d, true)
		wantFiles(t, d, c.want)
		d.Up()
		wantDown(t, d, false)
		wantFiles(t, d, c.want)

		d = three(t, 100)
		d.Arm(1, c.keep)
		wantErr(t, "Sync", d.Sync("none"), api.ErrNone)
		wantErr(t, "Sync", d.Sync("a"), api.ErrCrash)
		wantFiles(t, d, c.want)

		// What a crash left is sure: one more, of all that is put behind, takes nothing of it.
		d.Up()
		do(t, d.Append("a", []byte("rest")))
		do(t, d.Append("b", []byte("rest")))
		do(t, d.Append("c", []byte("rest")))
		wantFiles(t, d, strings.ReplaceAll(c.want, "|", "|rest"))
		d.Crash(0)
		wantFiles(t, d, c.want)
	}
}

func TestTheExample(t *testing.T) {
	d := disk.New(10)
	do(t, d.Append("a", []byte("xyz")))
	do(t, d.Sync("a"))
	do(t, d.Append("a", []byte("uv")))
	d.Crash(1)
	wantFiles(t, d, "a:xyzu|")
	d.Up()
	wantRead(t, d, "a", "xyzu")
}

func TestArmedAgain(t *testing.T) {
	d := three(t, 100)
	d.Arm(5, 0)
	do(t, d.Sync("b"))
	d.Arm(1, 2) // fewer, and another keep
	do(t, d.Sync("b"))
	wantErr(t, "Sync", d.Sync("b"), api.ErrCrash)
	wantFiles(t, d, "a:xyzuv| b:123| c:78|")

	d = three(t, 100)
	d.Arm(1, 2)
	do(t, d.Sync("b"))
	d.Arm(3, 0) // more
	for range 3 {
		do(t, d.Sync("b"))
	}
	wantErr(t, "Sync", d.Sync("b"), api.ErrCrash)
	wantFiles(t, d, "a:xyz| b:123| c:|")

	d = three(t, 100)
	d.Arm(0, 0)
	d.Arm(math.MaxUint64, 0)
	for range 100 {
		do(t, d.Sync("b"))
	}
}

func TestArmedWhileItIsDown(t *testing.T) {
	d := three(t, 100)
	d.Crash(0)
	at := d.Calls()
	d.Arm(2, 1)
	wantDown(t, d, true)
	for range 5 { // they are not done: they are none of the two
		wantErr(t, "Append", d.Append("a", []byte("uv")), api.ErrCrash)
	}
	d.Up()
	wantDown(t, d, false)
	do(t, d.Append("a", []byte("uv")))
	do(t, d.Append("c", []byte("789")))
	wantErr(t, "Sync", d.Sync("a"), api.ErrCrash)
	wantFiles(t, d, "a:xyzu| b:123| c:7|")
	wantCalls(t, d, at+2)

	d.Arm(0, 0)
	wantErr(t, "Sync", d.Sync("a"), api.ErrCrash)
	d.Up()
	wantDown(t, d, false)
	wantErr(t, "Sync", d.Sync("a"), api.ErrCrash)
	wantDown(t, d, true)
	d.Up()
	do(t, d.Sync("a"))
}

func TestACrashOfAnArmedDisk(t *testing.T) {
	d := three(t, 100)
	d.Arm(1, 5)
	do(t, d.Sync("b"))
	d.Crash(0)
	wantFiles(t, d, "a:xyz| b:123| c:|")
	d.Up()
	for range 5 {
		do(t, d.Sync("a")) // it is armed no more
	}

	d.Crash(0)
	d.Arm(0, 0)
	d.Crash(0) // down as it is, too
	wantDown(t, d, true)
	d.Up()
	do(t, d.Sync("a"))
}

func TestACrashOfADiskThatIsDown(t *testing.T) {
	d := three(t, 100)
	d.Crash(1)
	for _, keep := range []int{0, -1, 1, math.MaxInt} {
		d.Crash(keep)
		wantDown(t, d, true)
		wantFiles(t, d, "a:xyzu| b:123| c:7|")
	}
	d.Up()
	wantDown(t, d, false)
	wantFiles(t, d, "a:xyzu| b:123| c:7|")
}

func TestUpOfADiskThatIsUp(t *testing.T) {
	d := three(t, 100)
	d.Up()
	wantDown(t, d, false)
	wantFiles(t, d, "a:xyz|uv b:123| c:|789")
	d.Arm(1, 0)
	d.Up() // armed it stays
	do(t, d.Sync("b"))
	d.Up()
	wantErr(t, "Sync", d.Sync("b"), api.ErrCrash)
	wantDown(t, d, true)
}

// P9.3: Read, List, Files, Size, Calls

func TestWhileItIsDown(t *testing.T) {
	d := three(t, 100)
	at := d.Calls()
	d.Crash(1)
	wantNoRead(t, d, "a", api.ErrCrash)
	wantNoRead(t, d, "none", api.ErrCrash)
	wantNoRead(t, d, "A", api.ErrCrash)
	if got := d.List(); !slices.Equal(got, []string{"a", "b", "c"}) {
		t.Errorf("List() = %q", got)
	}
	wantFiles(t, d, "a:xyzu| b:123| c:7|")
	if got := d.Size(); got != 8 {
		t.Errorf("Size() = %d; want 8", got)
	}
	wantCalls(t, d, at)
	wantDown(t, d, true)
	d.Up()
	wantRead(t, d, "a", "xyzu")
	wantNoRead(t, d, "none", api.ErrNone)
	wantNoRead(t, d, "A", api.ErrNone)
}

func TestNamesRiseByteByByte(t *testing.T) {
	want := []string{"-", "--", "-.", "-9", "0", "00", "1", "10", "2", "9", "a", "a-", "a-1", "a.", "a.1", "a0", "a:", "aa", "b", "z", longest}
	for seed := range uint64(20) {
		names := slices.Clone(want)
		r := rand.New(rand.NewPCG(seed, 9))
		r.Shuffle(len(names), func(i, j int) { names[i], names[j] = names[j], names[i] })
		d := disk.New(100)
		for _, s := range names {
			do(t, d.Append(s, nil))
		}
		for range 3 {
			if got := d.List(); !slices.Equal(got, want) {
				t.Fatalf("List() = %q; want %q", got, want)
			}
			for i, f := range d.Files() {
				if f.Name != want[i] {
					t.Fatalf("file %d is %q; want %q", i, f.Name, want[i])
				}
			}
		}
	}
}

// What is counted: the calls alone, whatever they answer but ErrCrash.
func TestCalls(t *testing.T) {
	d := disk.New(10)
	do(t, d.Append("a", nil))
	do(t, d.Append("b", nil))
	wantCalls(t, d, 2)
	for i, call := range calls(d) {
		call()
		wantCalls(t, d, uint64(2+i+1))
	}
	at := d.Calls()
	d.Read("a")
	d.Read("none")
	d.List()
	d.Files()
	d.Size()
	d.Calls()
	d.Down()
	d.Up()
	d.Arm(0, 0)
	wantCalls(t, d, at)
	wantErr(t, "Sync", d.Sync("a"), api.ErrCrash)
	wantCalls(t, d, at)
	d.Crash(0)
	d.Up()
	wantCalls(t, d, at)
	do(t, d.Sync("a"))
	wantCalls(t, d, at+1)
}

// What Read, Files and List answer is asked of the disk, and does not touch what it does next.
func TestNoArmIsUsedUpByWhatIsNoCall(t *testing.T) {
	d := three(t, 100)
	d.Arm(1, 0)
	for range 5 {
		d.Read("a")
		d.List()
		d.Files()
		d.Size()
		d.Calls()
		d.Down()
	}
	do(t, d.Sync("b"))
	wantErr(t, "Sync", d.Sync("b"), api.ErrCrash)
}

func TestWhatIsAnsweredIsNewMemory(t *testing.T) {
	d := three(t, 100)
	want := "a:xyz|uv b:123| c:|789"
	b, _ := d.Read("a")
	copy(b, "#####")
	wantFiles(t, d, want)
	_ = append(b[:1], "!!!!!!!!"...)
	_ = append(b, "!!"...)
	wantFiles(t, d, want)
	names := d.List()
	clear(names)
	wantFiles(t, d, want)
	l := d.Files()
	for i, f := range l {
		copy(f.Data, "#####")
		_ = append(f.Data, "!!"...)
		l[i] = api.File{Name: "!", Sure: 77}
	}
	wantFiles(t, d, want)

	// Nor does the disk change what it answered.
	b, _ = d.Read("a")
	l, names = d.Files(), d.List()
	d.Crash(0)
	d.Up()
	do(t, d.Append("a", []byte("##")))
	do(t, d.Append("b", []byte("##")))
	do(t, d.Sync("b"))
	do(t, d.Remove("c"))
	do(t, d.Rename("a", "c"))
	if string(b) != "xyzuv" || told(l) != want || !slices.Equal(names, []string{"a", "b", "c"}) {
		t.Errorf("%q, %q, %q", b, told(l), names)
	}

	// Two answers share nothing, and neither do two files of one.
	b, _ = d.Read("b")
	b[0] = '!'
	wantRead(t, d, "b", "123##")
	l = d.Files()
	_ = append(l[0].Data, "!!!!"...)
	if got := told(l); got != "b:123##| c:xyz|##" {
		t.Errorf("Files() = %q", got)
	}
}

func TestOfNil(t *testing.T) {
	var d *disk.Disk
	d.Up()
	d.Arm(5, 5)
	d.Crash(5)
	d.Up()
	wantDown(t, d, true)
	for _, s := range []string{"a", "", "A"} {
		wantErr(t, "Append", d.Append(s, []byte("x")), api.ErrCrash)
		wantErr(t, "Append", d.Append(s, nil), api.ErrCrash)
		wantErr(t, "Sync", d.Sync(s), api.ErrCrash)
		wantErr(t, "Rename", d.Rename(s, "b"), api.ErrCrash)
		wantErr(t, "Rename", d.Rename("b", s), api.ErrCrash)
		wantErr(t, "Remove", d.Remove(s), api.ErrCrash)
		wantNoRead(t, d, s, api.ErrCrash)
	}
	if l, f := d.List(), d.Files(); l != nil || f != nil || d.Size() != 0 || d.Calls() != 0 {
		t.Errorf("%q, %v, %d, %d; want nothing", l, f, d.Size(), d.Calls())
	}
	wantDown(t, d, true)
}

// P9.1 to P9.3 together: a plain disk beside it

// plainByte is a byte of a file, and whether it is sure.
type plainByte struct {
	b    byte
	sure bool
}

type plainFile struct {
	name string
	all  []plainByte
}

// plainDisk keeps files as a list in no order, and tells by each byte whether it is sure.
type plainDisk struct {
	room  int
	files []plainFile
	count uint64
	down  bool
	lasts int // calls yet, -1 of one that is not armed
	keep  int
}

func (p *plainDisk) at(name string) int {
	return slices.IndexFunc(p.files, func(f plainFile) bool { return f.name == name })
}

func (p *plainDisk) crash(keep int) {
	for i, f := range p.files {
		var left []plainByte
		more := 0
		for _, b := range f.all {
			if !b.sure {
				more++
			}
			if b.sure || more <= keep {
				left = append(left, plainByte{b.b, true})
			}
		}
		p.files[i].all = left
	}
	p.down, p.lasts = true, -1
}

var plainName = regexp.MustCompile(`^[a-z0-9-][a-z0-9.:-]{0,23}$`)

// call is what a call with these names is answered: by do, which is asked where both are right and the file is there, if it must be.
func (p *plainDisk) call(names []string, must bool, do func() api.Errno) api.Errno {
	if p.down {
		return api.ErrCrash
	}
	if p.lasts == 0 {
		p.crash(p.keep)
		return api.ErrCrash
	}
	if p.lasts > 0 {
		p.lasts--
	}
	p.count++
	for _, s := range names {
		if !plainName.MatchString(s) {
			return api.ErrName
		}
	}
	if must && p.at(names[0]) < 0 {
		return api.ErrNone
	}
	return do()
}

func (p *plainDisk) size() int {
	n := 0
	for _, f := range p.files {
		n += len(f.all)
	}
	return n
}

func (p *plainDisk) append(name string, b []byte) api.Errno {
	return p.call([]string{name}, false, func() api.Errno {
		at := p.at(name)
		if at < 0 && len(p.files) >= api.MaxFiles {
			return api.ErrRoom
		}
		if p.size()+len(b) > p.room {
			return api.ErrFull
		}
		if at < 0 {
			at = len(p.files)
			p.files = append(p.files, plainFile{name: name})
		}
		for _, x := range b {
			p.files[at].all = append(p.files[at].all, plainByte{x, false})
		}
		return api.OK
	})
}

func (p *plainDisk) sync(name string) api.Errno {
	return p.call([]string{name}, true, func() api.Errno {
		for i := range p.files[p.at(name)].all {
			p.files[p.at(name)].all[i].sure = true
		}
		return api.OK
	})
}

func (p *plainDisk) remove(name string) api.Errno {
	return p.call([]string{name}, true, func() api.Errno {
		p.files = slices.DeleteFunc(p.files, func(f plainFile) bool { return f.name == name })
		return api.OK
	})
}

func (p *plainDisk) rename(from, to string) api.Errno {
	return p.call([]string{from, to}, true, func() api.Errno {
		if from != to {
			p.files = slices.DeleteFunc(p.files, func(f plainFile) bool { return f.name == to })
			p.files[p.at(from)].name = to
		}
		return api.OK
	})
}

func (p *plainDisk) told() string {
	files := slices.Clone(p.files)
	slices.SortFunc(files, func(a, b plainFile) int { return strings.Compare(a.name, b.name) })
	s := ""
	for _, f := range files {
		sure, rest := "", ""
		for _, b := range f.all {
			if b.sure {
				sure += string(rune(b.b))
			} else {
				rest += string(rune(b.b))
			}
		}
		s += f.name + ":" + sure + "|" + rest + " "
	}
	return strings.TrimSuffix(s, " ")
}

// names are few, so that they meet; some are none.
func names() []string {
	return []string{"a", "b", "c", "a", "b", "journal.1", "snap", "A", "", longest, longest + "z"}
}

// both does one call, which numbers choose, of both disks.
func both(d *disk.Disk, p *plainDisk, kind, x, y, n int) (api.Errno, api.Errno) {
	s, to := names()[x%len(names())], names()[y%len(names())]
	switch kind % 10 {
	case 0, 1, 2, 3:
		b := bytes.Repeat([]byte{byte('0' + n%10)}, n%8)
		return d.Append(s, b), p.append(s, b)
	case 4, 5:
		return d.Sync(s), p.sync(s)
	case 6:
		return d.Rename(s, to), p.rename(s, to)
	case 7:
		return d.Remove(s), p.remove(s)
	case 8:
		d.Up()
		p.down = false
		return 0, 0
	}
	keep := x%6 - 1
	if y%4 == 0 {
		d.Crash(keep)
		p.crash(keep)
		return 0, 0
	}
	d.Arm(uint64(n%12), keep)
	p.lasts, p.keep = n%12, keep
	return 0, 0
}

func holdAgainst(t *testing.T, d *disk.Disk, p *plainDisk) {
	t.Helper()
	if got, want := told(d.Files()), p.told(); got != want {
		t.Fatalf("Files() = %q; want %q", got, want)
	}
	if d.Size() != p.size() || d.Calls() != p.count || d.Down() != p.down || len(d.List()) != len(p.files) {
		t.Fatalf("%d bytes, %d calls, down %t, %d names; want %d, %d, %t, %d", d.Size(), d.Calls(), d.Down(), len(d.List()), p.size(), p.count, p.down, len(p.files))
	}
	for _, s := range names() {
		b, err := d.Read(s)
		at := p.at(s)
		switch {
		case p.down:
			wantErr(t, "Read", err, api.ErrCrash)
		case at < 0:
			wantErr(t, "Read", err, api.ErrNone)
		default:
			wantErr(t, "Read", err, api.OK)
			if len(b) != len(p.files[at].all) {
				t.Fatalf("Read(%q) = %q", s, b)
			}
			for i, x := range p.files[at].all {
				if b[i] != x.b {
					t.Fatalf("Read(%q) = %q", s, b)
				}
			}
		}
	}
}

func TestBesideAPlainDisk(t *testing.T) {
	for seed := range uint64(400) {
		r := rand.New(rand.NewPCG(seed, 90))
		room := r.IntN(60)
		d, p := disk.New(room), &plainDisk{room: room, lasts: -1}
		for i := range 150 {
			got, want := both(d, p, r.IntN(10), r.IntN(1000), r.IntN(1000), r.IntN(1000))
			if got != want {
				t.Fatalf("seed %d, call %d: %d; want %d", seed, i, got, want)
			}
			holdAgainst(t, d, p)
		}
	}
}

func FuzzBesideAPlainDisk(f *testing.F) {
	f.Add([]byte{20, 0, 0, 0, 3, 4, 0, 0, 0, 9, 1, 1, 1, 0, 0, 0, 5, 8, 0, 0, 0})
	f.Fuzz(func(t *testing.T, b []byte) {
		if len(b) == 0 {
			return
		}
		room := int(b[0])
		d, p := disk.New(room), &plainDisk{room: room, lasts: -1}
		for i := 1; i+4 <= len(b); i += 4 {
			got, want := both(d, p, int(b[i]), int(b[i+1]), int(b[i+2]), int(b[i+3]))
			if got != want {
				t.Fatalf("call %d: %d; want %d", i/4, got, want)
			}
			holdAgainst(t, d, p)
		}
	})
}

// P9.4: what is sure is never lost but by Remove and Rename; a crash leaves beginnings

func TestACrashLeavesBeginningsWithAllThatIsSure(t *testing.T) {
	for seed := range uint64(400) {
		r := rand.New(rand.NewPCG(seed, 94))
		d, p := disk.New(1000), &plainDisk{room: 1000, lasts: -1}
		for range r.IntN(60) {
			both(d, p, r.IntN(8), r.IntN(1000), r.IntN(1000), r.IntN(1000)) // no crash
		}
		ahead := d.Files()
		keep := r.IntN(12) - 3
		if r.IntN(2) == 0 {
			d.Crash(keep)
		} else {
			d.Arm(0, keep)
			wantErr(t, "Remove", d.Remove("a"), api.ErrCrash)
		}
		behind := d.Files()
		if len(behind) != len(ahead) {
			t.Fatalf("seed %d: %d files; want %d", seed, len(behind), len(ahead))
		}
		for i, f := range behind {
			was := ahead[i]
			if f.Name != was.Name || !bytes.HasPrefix(was.Data, f.Data) || len(f.Data) < was.Sure || f.Sure != len(f.Data) || len(f.Data) > was.Sure+max(keep, 0) {
				t.Fatalf("seed %d, keep %d: %v is left of %v", seed, keep, f, was)
			}
		}
	}
}

// Whatever is done but Remove and Rename, crashes among it: of each file all that was sure once is there.
func TestWhatIsSureStays(t *testing.T) {
	for seed := range uint64(400) {
		r := rand.New(rand.NewPCG(seed, 95))
		d, p := disk.New(200), &plainDisk{room: 200, lasts: -1}
		sure := map[string][]byte{}
		for range 100 {
			both(d, p, []int{0, 1, 4, 5, 8, 9}[r.IntN(6)], r.IntN(1000), r.IntN(1000), r.IntN(1000))
			here := map[string]api.File{}
			for _, f := range d.Files() {
				here[f.Name] = f
			}
			for s, b := range sure {
				if f := here[s]; f.Sure < len(b) || !bytes.HasPrefix(f.Data, b) {
					t.Fatalf("seed %d: of %q %q was sure, and %q is there", seed, s, b, f.Data)
				}
			}
			for s, f := range here {
				sure[s] = f.Data[:f.Sure]
			}
		}
	}
}
