package crash_test

import (
	"bytes"
	"fmt"
	"math"
	"math/rand/v2"
	"reflect"
	"regexp"
	"slices"
	"strings"
	"testing"

	"taximeter/api"
	"taximeter/crash"
	"taximeter/disk"
)

// longest is as long as a name may be.
var longest = strings.Repeat("z", api.MaxTarget)

func put(name, data string) crash.Op {
	return crash.Op{Kind: 1, Name: name, Data: []byte(data)}
}

func sync(name string) crash.Op {
	return crash.Op{Kind: 2, Name: name}
}

func rename(from, to string) crash.Op {
	return crash.Op{Kind: 3, Name: from, To: to}
}

func remove(name string) crash.Op {
	return crash.Op{Kind: 4, Name: name}
}

// nothing has all that a call has, but a kind.
func nothing(kind int) crash.Op {
	return crash.Op{Kind: kind, Name: "a", To: "b", Data: []byte("###")}
}

// noKinds are the kinds at the edges of those of calls, and far from them.
func noKinds() []int {
	return []int{0, 5, -1, -2, -3, -4, 6, 9, 255, 256, 257, 1 << 16, 1<<16 + 1, 1<<32 + 1, 1<<32 + 2, 1<<32 + 3, 1<<32 + 4, math.MaxInt, math.MinInt, math.MinInt + 1}
}

// told tells files as name:sure|rest.
func told(l []api.File) string {
	s := ""
	for _, f := range l {
		s += fmt.Sprintf("%s:%s|%s ", f.Name, f.Data[:f.Sure], f.Data[f.Sure:])
	}
	return strings.TrimSuffix(s, " ")
}

func wantDisk(t *testing.T, d *disk.Disk, files string, calls uint64, down bool) {
	t.Helper()
	if got := told(d.Files()); got != files || d.Calls() != calls || d.Down() != down {
		t.Errorf("the disk has %q, %d calls, down %t; want %q, %d, %t", got, d.Calls(), d.Down(), files, calls, down)
	}
}

func wantRun(t *testing.T, d *disk.Disk, l []crash.Op, want []api.Errno, crashed bool) {
	t.Helper()
	got, is := crash.Run(d, l)
	if !slices.Equal(got, want) || is != crashed {
		t.Errorf("Run answers %v, %t; want %v, %t", got, is, want, crashed)
	}
}

func wantMust(t *testing.T, d *disk.Disk, l []crash.Op, want api.Errno) {
	t.Helper()
	if got := crash.Must(d, l); got != want {
		t.Errorf("Must answers %d; want %d", got, want)
	}
}

func wantAt(t *testing.T, capacity int, l []crash.Op, place uint64, keep int, want string) {
	t.Helper()
	if got := told(crash.At(capacity, l, place, keep)); got != want {
		t.Errorf("At(%d, .., %d, %d) = %q; want %q", capacity, place, keep, got, want)
	}
}

// errs are answers.
func errs(l ...api.Errno) []api.Errno {
	return l
}

// some is work of six calls that all are OK of a disk of seven bytes, and of what is nothing ahead of them, between them and behind them.
func some() []crash.Op {
	return []crash.Op{
		nothing(0), put("a", "xyz"), nothing(5), nothing(-1), sync("a"), put("a", "uv"), put("b", "12"), nothing(9), rename("a", "c"), remove("b"), nothing(-4),
	}
}

// someAt is what some leaves of a disk that does so many of its calls.
func someAt(calls int) string {
	return []string{
		"",
		"a:|xyz",
		"a:xyz|",
		"a:xyz|uv",
		"a:xyz|uv b:|12",
		"b:|12 c:xyz|uv",
		"c:xyz|uv",
	}[calls]
}

// P10.1: Run and Calls

func TestRun(t *testing.T) {
	d := disk.New(7)
	wantRun(t, d, some(), errs(0, 0, 0, 0, 0, 0), false)
	wantDisk(t, d, someAt(6), 6, false)
}

func TestRunDoesEachKindAsTheDiskDoes(t *testing.T) {
	d := disk.New(9)
	wantRun(t, d, []crash.Op{put("a", "xyz")}, errs(0), false)
	wantDisk(t, d, "a:|xyz", 1, false)
	wantRun(t, d, []crash.Op{put("a", "")}, errs(0), false)
	wantDisk(t, d, "a:|xyz", 2, false)
	wantRun(t, d, []crash.Op{sync("a")}, errs(0), false)
	wantDisk(t, d, "a:xyz|", 3, false)
	wantRun(t, d, []crash.Op{put("b", "\x00\xff")}, errs(0), false)
	wantDisk(t, d, "a:xyz| b:|\x00\xff", 4, false)
	wantRun(t, d, []crash.Op{rename("a", "b")}, errs(0), false)
	wantDisk(t, d, "b:xyz|", 5, false)
	wantRun(t, d, []crash.Op{remove("b")}, errs(0), false)
	wantDisk(t, d, "", 6, false)
}

// What a kind does not speak of has no part in it.
func TestFieldsThatAKindDoesNotNameDoNothing(t *testing.T) {
	d := disk.New(9)
	for _, o := range []crash.Op{
		{Kind: 1, Name: "a", To: "b", Data: []byte("xyz")},
		{Kind: 2, Name: "a", To: "none", Data: []byte("far more bytes than there is room for")},
		{Kind: 3, Name: "a", To: "b", Data: []byte("far more bytes than there is room for")},
		{Kind: 1, Name: "a", To: "NO NAME", Data: []byte("u")},
		{Kind: 4, Name: "b", To: "a", Data: []byte("!")},
	} {
		wantRun(t, d, []crash.Op{o}, errs(0), false)
	}
	wantDisk(t, d, "a:|u", 5, false)
}

func TestRunOfNoWork(t *testing.T) {
	none := [][]crash.Op{nil, {}, {{}}, {nothing(0), nothing(7)}}
	for _, kind := range noKinds() {
		none = append(none, []crash.Op{nothing(kind)})
	}
	for _, l := range none {
		d := disk.New(9)
		wantRun(t, d, l, nil, false)
		wantDisk(t, d, "", 0, false)
		wantRun(t, nil, l, nil, false)

		d.Crash(0) // there is no call that could crash
		wantRun(t, d, l, nil, false)
		wantDisk(t, d, "", 0, true)

		d = disk.New(9)
		d.Arm(0, 0)
		wantRun(t, d, l, nil, false)
		wantDisk(t, d, "", 0, false)
		wantRun(t, d, []crash.Op{put("a", "x")}, nil, true) // armed it is yet
		wantDisk(t, d, "", 0, true)
	}
}

// Run goes on behind what is refused: it is done, and counted.
func TestRunGoesOnBehindWhatIsRefused(t *testing.T) {
	l := []crash.Op{
		sync("a"), rename("a", "b"), remove("a"), put("A", "x"), sync(""), rename("a", "B"), rename("B", "a"), remove("a b"), put(longest+"z", ""),
		put("a", "1234567"), put("a", "12"), put("a", "34567"), put("a", "3456"), sync("a"), sync("b"), put("b", "x"), put("b", ""), remove("b"), nothing(8), remove("b"), rename("a", longest),
	}
	want := errs(8, 8, 8, 7, 7, 7, 7, 7, 7, 10, 0, 10, 0, 0, 8, 10, 0, 0, 8, 0)
	d := disk.New(6)
	wantRun(t, d, l, want, false)
	wantDisk(t, d, longest+":123456|", 20, false)

	d = disk.New(6)
	d.Arm(17, 0)
	wantRun(t, d, l, want[:17], true)
	wantDisk(t, d, "a:123456| b:|", 17, true)
}

func TestRunOfAFullTable(t *testing.T) {
	var l []crash.Op
	for i := range api.MaxFiles + 1 {
		l = append(l, put(fmt.Sprint("f", i), ""))
	}
	l = append(l, remove("f7"), put("g", ""), put("h", ""))
	want := make([]api.Errno, api.MaxFiles)
	want = append(want, api.ErrRoom, 0, 0, api.ErrRoom)
	d := disk.New(0)
	wantRun(t, d, l, want, false)
	if n := len(d.List()); n != api.MaxFiles {
		t.Errorf("%d files; want %d", n, api.MaxFiles)
	}
}

func TestRunOfAnArmedDisk(t *testing.T) {
	for n := range 6 {
		for _, keep := range []int{0, 1, -1, 2, 99, math.MinInt, math.MaxInt} {
			d := disk.New(7)
			d.Arm(uint64(n), keep)
			wantRun(t, d, some(), make([]api.Errno, n), true)
			wantDisk(t, d, told(crash.At(7, some(), uint64(n), keep)), uint64(n), true)
		}
	}
	for _, n := range []uint64{6, 7, 8, 1 << 32, math.MaxUint64} {
		d := disk.New(7)
		d.Arm(n, 0)
		wantRun(t, d, some(), errs(0, 0, 0, 0, 0, 0), false)
		wantDisk(t, d, someAt(6), 6, false)
	}
}

// The disk is the caller's: what work leaves of its calls is there for the next.
func TestRunUsesUpWhatTheDiskIsArmedWith(t *testing.T) {
	d := disk.New(99)
	d.Arm(4, 1)
	wantRun(t, d, []crash.Op{put("a", "xyz"), nothing(0), sync("b")}, errs(0, 8), false)
	wantRun(t, d, nil, nil, false)
	wantRun(t, d, []crash.Op{put("b", "uvw"), sync("a")}, errs(0, 0), false)
	wantDisk(t, d, "a:xyz| b:|uvw", 4, false)
	wantRun(t, d, []crash.Op{nothing(0), remove("a"), remove("b")}, nil, true)
	wantDisk(t, d, "a:xyz| b:u|", 4, true)

	wantRun(t, d, []crash.Op{remove("a"), remove("b")}, nil, true) // down it is
	wantDisk(t, d, "a:xyz| b:u|", 4, true)
	d.Up()
	wantRun(t, d, []crash.Op{remove("a"), remove("b")}, errs(0, 0), false)
	wantDisk(t, d, "", 6, false)
}

func TestRunOfADiskThatIsDown(t *testing.T) {
	for _, l := range [][]crash.Op{some(), {put("a", "x")}, {sync("none")}, {rename("A", "B")}, {remove("")}} {
		d := disk.New(9)
		wantRun(t, d, []crash.Op{put("a", "12"), sync("a"), put("a", "3")}, errs(0, 0, 0), false)
		d.Crash(0)
		wantRun(t, d, l, nil, true)
		wantDisk(t, d, "a:12|", 3, true)
		wantRun(t, nil, l, nil, true)
	}
}

func TestRunOfADiskThatHasFiles(t *testing.T) {
	d := disk.New(9)
	wantRun(t, d, []crash.Op{put("a", "12"), put("b", "34"), sync("b")}, errs(0, 0, 0), false)
	wantRun(t, d, []crash.Op{sync("a"), put("b", "567"), put("c", "890"), put("c", "89"), rename("c", "a")}, errs(0, 0, 10, 0, 0), false)
	wantDisk(t, d, "a:|89 b:34|567", 8, false)
	d.Arm(1, 1)
	wantRun(t, d, []crash.Op{remove("c"), remove("b"), remove("a")}, errs(8), true)
	wantDisk(t, d, "a:8| b:345|", 9, true)
}

func TestRunAnswersNewMemory(t *testing.T) {
	d := disk.New(99)
	l := []crash.Op{put("a", "x"), sync("b"), sync("a")}
	one, _ := crash.Run(d, l)
	two, _ := crash.Run(d, l)
	clear(one)
	_ = append(one[:1], 7, 7, 7)
	if !slices.Equal(two, errs(0, 8, 0)) {
		t.Errorf("Run answers %v", two)
	}
}

func TestCalls(t *testing.T) {
	for _, c := range []struct {
		l    []crash.Op
		want int
	}{
		{nil, 0},
		{[]crash.Op{}, 0},
		{[]crash.Op{{}}, 0},
		{[]crash.Op{put("a", "x")}, 1},
		{[]crash.Op{sync("a")}, 1},
		{[]crash.Op{rename("a", "b")}, 1},
		{[]crash.Op{remove("a")}, 1},
		{[]crash.Op{put("a", "x"), sync("a"), rename("a", "b"), remove("b")}, 4},
		{[]crash.Op{{Kind: 1}, {Kind: 2}, {Kind: 3}, {Kind: 4}}, 4}, // names that are none: calls nonetheless
		{[]crash.Op{put("A", ""), put("", ""), put("a", "")}, 3},
		{[]crash.Op{nothing(0), nothing(5), nothing(-1)}, 0},
		{[]crash.Op{nothing(0), sync("a"), nothing(5), sync("a"), nothing(-1)}, 2},
		{some(), 6},
		{slices.Repeat(some(), 500), 3000},
	} {
		if got := crash.Calls(c.l); got != c.want {
			t.Errorf("Calls(%v) = %d; want %d", c.l, got, c.want)
		}
	}
	for _, kind := range noKinds() {
		if got := crash.Calls([]crash.Op{nothing(kind)}); got != 0 {
			t.Errorf("of kind %d there are %d calls", kind, got)
		}
	}
}

// P10.2: At

func TestTheExample(t *testing.T) {
	wantAt(t, 10, []crash.Op{put("a", "x"), sync("a")}, 1, 0, "a:|")
	l := crash.At(10, []crash.Op{put("a", "x"), sync("a")}, 1, 0)
	if len(l) != 1 || l[0].Name != "a" || len(l[0].Data) != 0 || l[0].Sure != 0 {
		t.Errorf("At answers %v", l)
	}
}

func TestAt(t *testing.T) {
	for _, c := range []struct {
		place uint64
		keep  int
		want  string
	}{
		{0, 0, ""},
		{0, 99, ""},
		{1, 0, "a:|"},
		{1, -1, "a:|"},
		{1, math.MinInt, "a:|"},
		{1, 1, "a:x|"},
		{1, 2, "a:xy|"},
		{1, 3, "a:xyz|"},
		{1, 4, "a:xyz|"},
		{1, math.MaxInt, "a:xyz|"},
		{2, 0, "a:xyz|"},
		{2, -1, "a:xyz|"},
		{2, 9, "a:xyz|"},
		{3, 0, "a:xyz|"},
		{3, 1, "a:xyzu|"},
		{3, 2, "a:xyzuv|"},
		{3, 3, "a:xyzuv|"},
		{4, 0, "a:xyz| b:|"},
		{4, 1, "a:xyzu| b:1|"},
		{4, 9, "a:xyzuv| b:12|"},
		{5, 0, "b:| c:xyz|"}, // the last call is not done
		{5, -7, "b:| c:xyz|"},
		{5, 1, "b:1| c:xyzu|"},
		{5, 2, "b:12| c:xyzuv|"},
		{6, 0, "c:xyz|"}, // behind all of it: what is not sure is cut off there, too
		{6, -1, "c:xyz|"},
		{6, 1, "c:xyzu|"},
		{6, 2, "c:xyzuv|"},
		{7, 0, "c:xyz|"},
		{7, 1, "c:xyzu|"},
		{1 << 31, 1, "c:xyzu|"},
		{1 << 32, 0, "c:xyz|"},
		{1<<32 + 1, 0, "c:xyz|"},
		{1 << 63, 1, "c:xyzu|"},
		{math.MaxUint64, 0, "c:xyz|"},
		{math.MaxUint64, math.MaxInt, "c:xyzuv|"},
	} {
		wantAt(t, 7, some(), c.place, c.keep, c.want)
	}
}

func TestAtOfNoWork(t *testing.T) {
	for _, l := range [][]crash.Op{nil, {}, {{}}, {nothing(0), nothing(5), nothing(-1)}} {
		for _, place := range []uint64{0, 1, 2, 3, math.MaxUint64} {
			for _, keep := range []int{-1, 0, 1, 99} {
				if got := crash.At(9, l, place, keep); len(got) != 0 {
					t.Errorf("At(9, %v, %d, %d) = %v; want nothing", l, place, keep, got)
				}
			}
		}
	}
}

// A place counts calls alone, those that are refused among them.
func TestPlacesAreThoseOfCalls(t *testing.T) {
	l := []crash.Op{nothing(0), nothing(-1), put("A", "x"), nothing(5), put("a", "far more than there is room for"), nothing(5), remove("none"), put("a", "xy"), nothing(77), put("a", "z"), nothing(0)}
	for place, want := range []string{"", "", "", "", "a:x|", "a:x|", "a:x|"} {
		wantAt(t, 9, l, uint64(place), 1, want)
	}
	for place, want := range []string{"", "", "", "", "a:xy|", "a:xyz|", "a:xyz|"} {
		wantAt(t, 9, l, uint64(place), 9, want)
	}
}

func TestAtOfACapacity(t *testing.T) {
	l := []crash.Op{put("a", "xy"), sync("a"), put("b", "z"), put("a", "")}
	for _, c := range []struct {
		capacity int
		want     string
	}{
		{math.MinInt, ""},
		{-1, ""},
		{0, ""},
		{1, "b:z|"},
		{2, "a:xy|"},
		{3, "a:xy| b:z|"},
		{4, "a:xy| b:z|"},
		{math.MaxInt, "a:xy| b:z|"},
	} {
		wantAt(t, c.capacity, l, 3, 9, c.want)
		want := c.want
		if !strings.Contains(want, "a:") { // of no bytes there is room for a file
			want = strings.TrimSuffix("a:| "+want, " ")
		}
		wantAt(t, c.capacity, l, 4, 9, want)
		wantAt(t, c.capacity, l, 9, 9, want)
	}
	l = []crash.Op{put("a", "xy"), put("a", "zu"), put("a", "z"), put("a", "u")}
	wantAt(t, 3, l, 9, 9, "a:xyz|") // it is passed by a byte, reached, and passed by a byte again
	wantAt(t, 4, l, 9, 9, "a:xyzu|")
}

func TestAtOfNamesThatComeAndGo(t *testing.T) {
	l := []crash.Op{
		put("new", "1234"), sync("new"), put("old", "ab"), sync("old"), rename("new", "old"), put("new", "56"), remove("old"), put("old", "7"), rename("old", "old"), sync("old"), rename("new", "old"),
	}
	for place, want := range []string{
		"",
		"new:|",
		"new:1234|",
		"new:1234| old:|",
		"new:1234| old:ab|",
		"old:1234|",
		"new:| old:1234|",
		"new:|",
		"new:| old:|",
		"new:| old:|",
		"new:| old:7|",
		"old:|",
		"old:|",
	} {
		wantAt(t, 99, l, uint64(place), 0, want)
	}
	wantAt(t, 99, l, 8, 1, "new:5| old:7|")
	wantAt(t, 99, l, 10, 1, "new:5| old:7|")
	wantAt(t, 99, l, 11, 1, "old:5|")
	wantAt(t, 99, l, 11, 2, "old:56|")
}

func TestAtAnswersNewMemory(t *testing.T) {
	l := []crash.Op{put("a", "xyz"), put("b", "12"), sync("a"), sync("b")}
	one := crash.At(9, l, 9, 0)
	two := crash.At(9, l, 9, 0)
	copy(one[0].Data, "###")
	_ = append(one[0].Data, "####"...)
	_ = append(one[0].Data[:1], "####"...)
	if told(one) != "a:###| b:12|" {
		t.Errorf("the files of one answer are %q", told(one))
	}
	one[1] = api.File{Name: "!"}
	if told(two) != "a:xyz| b:12|" {
		t.Errorf("the other answer is %q", told(two))
	}
	wantWork(t, l, []crash.Op{put("a", "xyz"), put("b", "12"), sync("a"), sync("b")})
	wantAt(t, 9, l, 9, 0, "a:xyz| b:12|")
	copy(l[0].Data, "!!!") // nor is it the work's
	if told(two) != "a:xyz| b:12|" {
		t.Errorf("the other answer is %q", told(two))
	}
}

func wantWork(t *testing.T, got, want []crash.Op) {
	t.Helper()
	if !reflect.DeepEqual(got, want) {
		t.Errorf("the work is %v; want %v", got, want)
	}
}

// Neither the work nor its bytes are changed or kept, nor what lies behind their ends.
func TestTheWorkIsNotTouched(t *testing.T) {
	room := []byte("xyz behind")
	given := func() []crash.Op {
		l := append(some(), put("d", ""), put("d", "12345678"))
		l[1].Data = room[:3]
		return append(l, nothing(1), nothing(2))
	}
	want, all := given(), given()
	l := all[:len(all)-2]
	d := disk.New(9)
	calls := []func(){
		func() { crash.Calls(l) },
		func() { crash.Run(d, l) },
		func() { crash.Run(disk.New(99), l) },
		func() { crash.Must(disk.New(9), l) },
		func() { crash.Must(disk.New(99), l) },
		func() { crash.At(99, l, 4, 1) },
		func() { crash.At(99, l, 99, 1) },
		func() { crash.Run(nil, l) },
		func() { crash.Must(nil, l) },
	}
	for i, call := range calls {
		call()
		wantWork(t, all, want)
		if string(room) != "xyz behind" {
			t.Errorf("behind call %d a text's room is %q", i, room)
		}
	}
	copy(room, "######")
	clear(all)
	wantDisk(t, d, "c:xyz|uv d:|", 8, false)
}

// P10.3: Must

func TestMust(t *testing.T) {
	d := disk.New(7)
	wantMust(t, d, some(), api.OK)
	wantDisk(t, d, someAt(6), 6, false)

	for _, l := range [][]crash.Op{nil, {}, {{}}, {nothing(0), nothing(5), nothing(-1)}} {
		wantMust(t, d, l, api.OK)
		wantMust(t, nil, l, api.OK)
	}
	for _, kind := range noKinds() {
		wantMust(t, d, []crash.Op{nothing(kind)}, api.OK)
	}
	wantDisk(t, d, someAt(6), 6, false)
	d.Crash(9)
	wantMust(t, d, nil, api.OK) // there is no call that could be refused
	wantMust(t, d, []crash.Op{nothing(0)}, api.OK)
	wantDisk(t, d, "c:xyzuv|", 6, true)
}

// What is refused, at each place, is answered, and nothing behind it is done.
func TestMustStopsAtTheFirstCallThatIsRefused(t *testing.T) {
	refused := []struct {
		o    crash.Op
		want api.Errno
	}{
		{put("A", "x"), api.ErrName},
		{put(longest+"z", ""), api.ErrName},
		{put("a", "far more than there is room for"), api.ErrFull},
		{put("q", "12345678"), api.ErrFull}, // by a byte
		{sync("none"), api.ErrNone},
		{sync(""), api.ErrName},
		{rename("none", "a"), api.ErrNone},
		{rename("none", "A"), api.ErrName},
		{rename("A", "none"), api.ErrName},
		{remove("none"), api.ErrNone},
		{remove("a b"), api.ErrName},
	}
	places := []int{0, 2, 5, 6, 7, 9, 10} // in the work, ahead of its calls 0, 1 .., and behind all
	for calls, at := range places {
		for _, r := range refused {
			l := slices.Insert(some(), at, r.o, nothing(0))
			d := disk.New(7)
			wantMust(t, d, l, r.want)
			wantDisk(t, d, someAt(calls), uint64(calls)+1, false)

			// The first one counts.
			d = disk.New(7)
			wantMust(t, d, append(l, remove("A"), sync("none")), r.want)
			wantDisk(t, d, someAt(calls), uint64(calls)+1, false)
			d = disk.New(7)
			wantMust(t, d, slices.Insert(l, at, remove("no-file")), api.ErrNone)
			wantDisk(t, d, someAt(calls), uint64(calls)+1, false)
		}
	}
}

func TestMustOfAFullTable(t *testing.T) {
	var l []crash.Op
	for i := range api.MaxFiles {
		l = append(l, put(fmt.Sprint("f", i), ""))
	}
	d := disk.New(0)
	wantMust(t, d, l, api.OK)
	wantMust(t, d, []crash.Op{put("f0", ""), put("g", ""), remove("f0")}, api.ErrRoom)
	if n := len(d.List()); n != api.MaxFiles || d.Calls() != api.MaxFiles+2 {
		t.Errorf("%d files, %d calls", n, d.Calls())
	}
}

func TestMustOfADiskThatCrashes(t *testing.T) {
	for n := range 6 {
		for _, keep := range []int{-1, 0, 1, 99} {
			d := disk.New(7)
			d.Arm(uint64(n), keep)
			wantMust(t, d, some(), api.ErrCrash)
			wantDisk(t, d, told(crash.At(7, some(), uint64(n), keep)), uint64(n), true)
			wantMust(t, d, some(), api.ErrCrash) // it is down
			wantDisk(t, d, told(crash.At(7, some(), uint64(n), keep)), uint64(n), true)
		}
	}
	d := disk.New(7)
	d.Arm(6, 0)
	wantMust(t, d, some(), api.OK)
	wantDisk(t, d, someAt(6), 6, false)
	wantMust(t, d, []crash.Op{nothing(0), sync("A")}, api.ErrCrash)
	wantDisk(t, d, "c:xyz|", 6, true)
	for _, o := range []crash.Op{put("a", ""), put("A", ""), sync("none"), rename("a", "A"), remove("")} {
		wantMust(t, d, []crash.Op{o}, api.ErrCrash)
		wantMust(t, nil, []crash.Op{o}, api.ErrCrash)
		wantMust(t, nil, []crash.Op{nothing(5), o}, api.ErrCrash)
	}
	d.Up()
	wantMust(t, d, []crash.Op{put("a", "x"), sync("a")}, api.OK)
	wantDisk(t, d, "a:x| c:xyz|", 8, false)

	// What is refused ahead of a crash is the first.
	d = disk.New(7)
	d.Arm(2, 0)
	wantMust(t, d, []crash.Op{put("a", "x"), sync("b"), sync("a"), sync("a")}, api.ErrNone)
	wantDisk(t, d, "a:|x", 2, false)
	wantMust(t, d, []crash.Op{sync("b")}, api.ErrCrash)
	wantDisk(t, d, "a:|", 2, true)
}

// P10.1 to P10.3 together: a plain disk beside it

// plainByte is a byte of a file, and whether it is sure.
type plainByte struct {
	b    byte
	sure bool
}

// plainDisk is files by their names, and room.
type plainDisk struct {
	room  int
	files map[string][]plainByte
}

var plainName = regexp.MustCompile(`^[a-z0-9-][a-z0-9.:-]{0,23}$`)

// plainCall does a call of a disk that is up, and tells whether it is one.
func plainCall(p plainDisk, o crash.Op) (api.Errno, bool) {
	if o.Kind < 1 || o.Kind > 4 {
		return 0, false
	}
	if !plainName.MatchString(o.Name) || o.Kind == 3 && !plainName.MatchString(o.To) {
		return api.ErrName, true
	}
	was, there := p.files[o.Name]
	if o.Kind != 1 && !there {
		return api.ErrNone, true
	}
	switch o.Kind {
	case 1:
		size := len(o.Data)
		for _, f := range p.files {
			size += len(f)
		}
		if size > p.room {
			return api.ErrFull, true
		}
		for _, b := range o.Data {
			was = append(was, plainByte{b, false})
		}
		p.files[o.Name] = was
	case 2:
		for i := range was {
			was[i].sure = true
		}
	case 3:
		delete(p.files, o.Name)
		p.files[o.To] = was
	case 4:
		delete(p.files, o.Name)
	}
	return 0, true
}

// plainCrash leaves what is sure, and so many bytes more.
func plainCrash(p plainDisk, keep int) {
	for s, f := range p.files {
		var left []plainByte
		more := 0
		for _, b := range f {
			if !b.sure {
				more++
			}
			if b.sure || more <= keep {
				left = append(left, plainByte{b.b, true})
			}
		}
		p.files[s] = left
	}
}

func sureOf(f []plainByte) int {
	n := 0
	for _, b := range f {
		if b.sure {
			n++
		}
	}
	return n
}

func plainTold(p plainDisk) string {
	var l []string
	for s, f := range p.files {
		text, sure := "", sureOf(f)
		for i, b := range f {
			if i == sure {
				text += "|"
			}
			text += string([]byte{b.b})
		}
		if sure == len(f) {
			text += "|"
		}
		l = append(l, s+":"+text)
	}
	slices.SortFunc(l, func(a, b string) int {
		return strings.Compare(a[:strings.Index(a, ":")], b[:strings.Index(b, ":")])
	})
	return strings.Join(l, " ")
}

// plainRun does work of a new disk till it crashes, and gives up behind the first that is refused, if it must.
func plainRun(room int, l []crash.Op, place uint64, keep int, must bool) (plainDisk, []api.Errno, bool) {
	p := plainDisk{max(room, 0), map[string][]plainByte{}}
	var all []api.Errno
	for _, o := range l {
		if o.Kind >= 1 && o.Kind <= 4 && uint64(len(all)) == place {
			plainCrash(p, keep)
			return p, all, true
		}
		if err, is := plainCall(p, o); is {
			all = append(all, err)
			if must && err != 0 {
				return p, all, false
			}
		}
	}
	return p, all, false
}

// holdAgainst holds all that is answered of work against what is reckoned plainly.
func holdAgainst(t *testing.T, room int, l []crash.Op, place uint64, keep int) {
	t.Helper()
	was := fmt.Sprint(l)
	_, every, _ := plainRun(room, l, math.MaxUint64, 0, false)
	if got := crash.Calls(l); got != len(every) {
		t.Fatalf("Calls = %d; want %d", got, len(every))
	}

	p, answers, crashed := plainRun(room, l, place, keep, false)
	d := disk.New(room)
	d.Arm(place, keep)
	wantRun(t, d, l, answers, crashed)
	wantDisk(t, d, plainTold(p), uint64(len(answers)), crashed)
	if !crashed {
		plainCrash(p, keep)
	}
	wantAt(t, room, l, place, keep, plainTold(p))

	p, answers, crashed = plainRun(room, l, place, keep, true)
	want := api.OK
	switch {
	case crashed:
		want = api.ErrCrash
	case len(answers) > 0:
		want = answers[len(answers)-1]
	}
	d = disk.New(room)
	d.Arm(place, keep)
	wantMust(t, d, l, want)
	wantDisk(t, d, plainTold(p), uint64(len(answers)), crashed)
	if got := fmt.Sprint(l); got != was {
		t.Fatalf("the work was %s, and is %s", was, got)
	}
	if t.Failed() {
		t.Fatalf("of %d bytes, place %d, keep %d, of the work %s", room, place, keep, was)
	}
}

// workOf is work that numbers choose: names are few, so that they meet; some are none.
func workOf(numbers []byte, wrong bool) []crash.Op {
	names := []string{"a", "b", "c", "a", "b", "c", "snap", "journal-1"}
	if wrong {
		names = append(names, "A", "", longest, longest+"z", ".a")
	}
	var l []crash.Op
	for i := 0; i+4 <= len(numbers); i += 4 {
		kind := []int{1, 1, 1, 1, 2, 2, 3, 4, 0, 5, -1, 9}[numbers[i]%12]
		size := int(numbers[i+3]) % 8
		l = append(l, crash.Op{Kind: kind, Name: names[int(numbers[i+1])%len(names)], To: names[int(numbers[i+2])%len(names)], Data: bytes.Repeat([]byte{'0' + numbers[i+3]%10}, size)})
	}
	return l
}

// someWork is work by chance, that is refused now and then, or seldom.
func someWork(r *rand.Rand) (int, []crash.Op) {
	b := make([]byte, 4*r.IntN(25))
	for i := range b {
		b[i] = byte(r.IntN(256))
	}
	wrong := r.IntN(2) == 0
	room := r.IntN(70) - 3
	if !wrong {
		room += 60
	}
	return room, workOf(b, wrong)
}

func TestBesideAPlainDisk(t *testing.T) {
	for seed := range uint64(1500) {
		r := rand.New(rand.NewPCG(seed, 100))
		room, l := someWork(r)
		for place := range uint64(len(l) + 2) {
			holdAgainst(t, room, l, place, r.IntN(12)-2)
		}
	}
}

// Work all of whose calls are OK but one, which is wherever it may be.
func TestMustOfWorkThatIsRefusedOnce(t *testing.T) {
	for seed := range uint64(300) {
		r := rand.New(rand.NewPCG(seed, 103))
		_, l := someWork(r)
		p := plainDisk{999, map[string][]plainByte{}}
		l = slices.DeleteFunc(l, func(o crash.Op) bool {
			err, _ := plainCall(p, o)
			return err != 0
		})
		holdAgainst(t, 999, l, math.MaxUint64, 0)
		wantMust(t, disk.New(999), l, api.OK)
		for at := range len(l) + 1 {
			one := slices.Insert(slices.Clone(l), at, sync("no-file"))
			holdAgainst(t, 999, one, math.MaxUint64, 0)
			d := disk.New(999)
			wantMust(t, d, one, api.ErrNone)
			if want := uint64(crash.Calls(l[:at])) + 1; d.Calls() != want {
				t.Fatalf("seed %d, at %d: %d calls; want %d", seed, at, d.Calls(), want)
			}
		}
	}
}

func FuzzBesideAPlainDisk(f *testing.F) {
	f.Add(9, uint64(2), 1, true, []byte{0, 0, 0, 3, 4, 0, 0, 0, 9, 1, 1, 1, 6, 0, 1, 5, 7, 1, 0, 0})
	f.Fuzz(func(t *testing.T, room int, place uint64, keep int, wrong bool, b []byte) {
		if len(b) > 400 {
			return
		}
		l := workOf(b, wrong)
		holdAgainst(t, room, l, place, keep)
		holdAgainst(t, room, l, place%uint64(len(l)+2), keep)
	})
}

// P10.4: what is left of work that crashed is what a crash leaves behind a beginning of the work

// beginning is work up to a place: the calls ahead of it, and what is nothing among them.
func beginning(l []crash.Op, place uint64) []crash.Op {
	for i := range l {
		if uint64(crash.Calls(l[:i+1])) > place {
			return l[:i]
		}
	}
	return l
}

func TestACrashLeavesWhatItLeavesBehindABeginning(t *testing.T) {
	for seed := range uint64(600) {
		r := rand.New(rand.NewPCG(seed, 104))
		room, l := someWork(r)
		for place := range uint64(len(l) + 2) {
			keep := r.IntN(12) - 2
			d := disk.New(room)
			crash.Run(d, beginning(l, place))
			d.Crash(keep)
			want := told(d.Files())
			wantAt(t, room, l, place, keep, want)

			d = disk.New(room)
			d.Arm(place, keep)
			if answers, crashed := crash.Run(d, l); crashed {
				wantDisk(t, d, want, place, true)
				if uint64(len(answers)) != place {
					t.Fatalf("seed %d: %d answers ahead of the place %d", seed, len(answers), place)
				}
			} else if place < uint64(crash.Calls(l)) {
				t.Fatalf("seed %d: no crash at the place %d", seed, place)
			}
			if t.Failed() {
				t.Fatalf("seed %d, place %d, keep %d", seed, place, keep)
			}
		}
	}
}

// What a crash leaves is sure, wherever it came, and has no more than was there ahead of it.
func TestWhatIsLeftIsSure(t *testing.T) {
	for seed := range uint64(300) {
		r := rand.New(rand.NewPCG(seed, 105))
		room, l := someWork(r)
		for place := range uint64(len(l) + 2) {
			d := disk.New(room)
			crash.Run(d, beginning(l, place))
			ahead := d.Files()
			keep := r.IntN(12) - 2
			left := crash.At(room, l, place, keep)
			if len(left) != len(ahead) {
				t.Fatalf("seed %d, place %d: %d files are left of %d", seed, place, len(left), len(ahead))
			}
			for i, f := range left {
				was := ahead[i]
				if f.Name != was.Name || f.Sure != len(f.Data) || !bytes.HasPrefix(was.Data, f.Data) || f.Sure != min(len(was.Data), was.Sure+max(keep, 0)) {
					t.Fatalf("seed %d, place %d, keep %d: %v is left of %v", seed, place, keep, f, was)
				}
			}
		}
	}
}
