package tests

import (
	"math"
	"math/rand"
	"slices"
	"strings"
	"testing"

	"loop.example/g00268/impl"
)

func TestNewLogs(t *testing.T) {
	for _, room := range []int{0, 1, 6, 7, 8, 100, 59999, 60000} {
		l, code := impl.NewLog(room)
		checkLogAnswer(t, "NewLog", l, l, impl.Log{Room: room}, code, impl.OK)
		checkLog(t, l)
		checkRecords(t, l, nil, 0, impl.OK)
	}
	for _, room := range []int{-1, -2, 60001, 65536, 1 << 32, -1 << 32, math.MaxInt, math.MinInt} {
		l, code := impl.NewLog(room)
		checkLogAnswer(t, "NewLog", l, l, impl.Log{}, code, impl.ErrRange)
	}
	if impl.MaxRoom != 60000 || impl.MaxRecord != 20000 {
		t.Error("the bounds of a log")
	}
}

func TestRightLogs(t *testing.T) {
	big := strings.Repeat("x", 60000)
	for _, l := range []impl.Log{
		{}, {Room: 1}, {Room: 60000}, {Room: 1, Data: "a"}, {Room: 1, Data: "a", Sure: 1}, {Room: 2, Data: "a"}, {Room: 2, Data: "ab", Sure: 1}, {Room: 7, Data: "abcdefg", Sure: 7},
		{Room: 59999, Data: big[:59999], Sure: 59999}, {Room: 60000, Data: big}, {Room: 60000, Data: big, Sure: 59999}, {Room: 60000, Data: big, Sure: 60000}, {Room: 60000, Data: big[:59999]},
	} {
		checkLog(t, l)
	}
}

func TestWrongLogs(t *testing.T) {
	one := written("a")
	big := strings.Repeat("x", 60001)
	for _, l := range []impl.Log{
		{Room: -1}, {Room: math.MinInt}, {Room: 60001}, {Room: math.MaxInt}, {Room: 60001, Data: one}, {Room: -1, Data: one}, {Room: -1, Sure: -1}, {Room: math.MinInt, Data: "a", Sure: math.MinInt},
		{Room: 0, Data: "a"}, {Room: 0, Data: "a", Sure: 1}, {Room: 7, Data: one}, {Room: 7, Data: one, Sure: 7}, {Room: 7, Data: one, Sure: 8}, {Room: 60000, Data: big}, {Room: 60001, Data: big}, {Room: 59999, Data: big[:60000]}, {Room: 60000, Data: longText}, {Room: 60000, Data: endlessText}, {Room: math.MaxInt, Data: endlessText},
		{Sure: -1}, {Sure: 1}, {Room: 8, Sure: 1}, {Room: 8, Data: one, Sure: -1}, {Room: 8, Data: one, Sure: 9}, {Room: 100, Data: one, Sure: 9}, {Room: 100, Data: one, Sure: math.MinInt}, {Room: 100, Data: one, Sure: math.MaxInt}, {Room: 60000, Data: big[:60000], Sure: 60001},
		// What is behind the records is not looked for in a log that is not right.
		{Room: 7, Data: one[:7] + "b"}, {Room: 5, Data: one[:6]}, {Room: 100, Data: one[:7] + "b", Sure: 9}, {Room: 100, Data: one[:6], Sure: 7},
	} {
		checkWrongLog(t, l)
	}
}

// Records of any bytes, those among them that look like a record's head, or like a record.
func someRecords() []string {
	list := []string{"a", "record", "\x00", "\xff", "\x00\x00\x00", "\xff\xff\xff\xff", "\x00\xff\x00\xff", "\r\n", "\n", "\u00e4\u20ac", "\x80", strings.Repeat("\x00", 7), strings.Repeat("\xff", 7), strings.Repeat("\x00", 300), strings.Repeat("\xff", 300), "\x00\x00\x01", written("a"), written("a")[:7], written("a")[:3], written(written("b")), string(madeBytes(1000, 3))}
	for _, n := range []int{255, 256, 257, 65, 128} {
		list = append(list, string(madeBytes(n, n)))
	}
	for c := range 256 {
		list = append(list, string([]byte{byte(c)}))
	}
	return list
}

func TestWrittenRecords(t *testing.T) {
	for record, data := range map[string]string{
		"a":                         "\x00\x00\x01\x02\xea\xbf\x93a",
		"record":                    "\x00\x00\x06\xaf\x2f\x1f\xa6record",
		"\x00":                      "\x00\x00\x01\x38\x5f\xee\x5d\x00",
		"\xff":                      "\x00\x00\x01\x15\x5d\x01\xd0\xff",
		strings.Repeat("\x00", 256): "\x00\x01\x00\xcd\x7a\x7d\x74" + strings.Repeat("\x00", 256),
	} {
		if written(record) != data {
			t.Errorf("%q is written as %q", brief(record), brief(written(record)))
		}
		l, code := checkAppend(t, impl.Log{Room: 1000}, record)
		checkLogAnswer(t, "LogAppend", l, l, impl.Log{Room: 1000, Data: data}, code, impl.OK)
	}
}

func TestAppendedRecords(t *testing.T) {
	for _, record := range someRecords() {
		l, code := checkAppend(t, impl.Log{Room: 5000}, record)
		if code != impl.OK {
			t.Errorf("LogAppend of %q has the code %d", brief(record), code)
		}
		checkRecords(t, l, []string{record}, 7+len(record), impl.OK)
		checkLog(t, l)
	}
	// All of them in one log, synced behind each k-th one.
	for _, k := range []int{1, 2, 3, 1000} {
		l, _ := impl.NewLog(impl.MaxRoom)
		var all []string
		size, sure := 0, 0
		for i, record := range someRecords() {
			l, _ = checkAppend(t, l, record)
			all = append(all, record)
			size += 7 + len(record)
			if i%k == k-1 {
				l, _ = impl.LogSync(l)
				sure = size
			}
			checkRecords(t, l, all, size, impl.OK)
			if l.Sure != sure || len(l.Data) != size || l.Room != impl.MaxRoom {
				t.Errorf("behind record %d: %d of %d are sure", i, l.Sure, len(l.Data))
			}
		}
		checkLog(t, l)
	}
	// A log that has what is no record takes one nevertheless.
	for _, data := range []string{"a", "abcdefg", written("a")[:6], written("a")[:7] + "b", written("a") + "\x00"} {
		for sure := range len(data) + 1 {
			l, code := checkAppend(t, impl.Log{Room: 50, Data: data, Sure: sure}, "record")
			checkLogAnswer(t, "LogAppend", l, l, impl.Log{Room: 50, Data: data + written("record"), Sure: sure}, code, impl.OK)
			checkLog(t, l)
		}
	}
}

func TestLengthsOfRecords(t *testing.T) {
	for _, n := range []int{1, 2, 127, 128, 255, 256, 257, 511, 512, 4095, 4096, 19999, 20000} {
		record := string(madeBytes(n, n))
		l, code := checkAppend(t, impl.Log{Room: impl.MaxRoom}, record)
		if code != impl.OK {
			t.Errorf("LogAppend of %d bytes has the code %d", n, code)
		}
		checkRecords(t, l, []string{record}, 7+n, impl.OK)
	}
	for _, l := range []impl.Log{{}, {Room: 7}, {Room: impl.MaxRoom}, {Room: 20, Data: written("a"), Sure: 3}} {
		for _, n := range []int{0, 20001, 20002, 60000, 60001, impl.MaxText} {
			got, code := checkAppend(t, l, strings.Repeat("r", n))
			checkLogAnswer(t, "LogAppend", l, got, l, code, impl.ErrRange)
		}
		for _, n := range []int{impl.MaxText + 1, 2 * impl.MaxText} {
			got, code := checkAppend(t, l, strings.Repeat("r", n))
			checkLogAnswer(t, "LogAppend", l, got, impl.Log{}, code, impl.ErrLong)
		}
	}
	// Two of the longest, and as much of a third as there is room for.
	l, _ := impl.NewLog(impl.MaxRoom)
	longest := strings.Repeat("\xff", 20000)
	for range 2 {
		l, _ = checkAppend(t, l, longest)
	}
	if _, code := checkAppend(t, l, longest); code != impl.ErrFull {
		t.Error("three of the longest records have room")
	}
	l, code := checkAppend(t, l, longest[:60000-3*7-2*20000])
	if code != impl.OK || len(l.Data) != impl.MaxRoom {
		t.Error("a log is not filled:", code, len(l.Data))
	}
	checkLog(t, l)
}

func TestRoomOfRecords(t *testing.T) {
	for room := range 40 {
		for n := range 40 {
			_, code := checkAppend(t, impl.Log{Room: room}, strings.Repeat("r", n))
			want := impl.OK
			switch {
			case n == 0:
				want = impl.ErrRange
			case n+7 > room:
				want = impl.ErrFull
			}
			if code != want {
				t.Errorf("LogAppend of %d bytes in a room of %d has the code %d", n, room, code)
			}
			for behind := range 3 {
				data := written("record")
				l := impl.Log{Room: len(data) + n + 6 + behind, Data: data, Sure: 5}
				if _, code := checkAppend(t, l, strings.Repeat("r", n)); n > 0 && (code == impl.OK) != (behind > 0) {
					t.Errorf("LogAppend of %d bytes beside %d has the code %d", n, len(data), code)
				}
			}
		}
	}
	for _, n := range []int{1, 100, 19999, 20000} {
		record := strings.Repeat("r", n)
		for _, data := range []string{"", written("a"), strings.Repeat("x", 30000)} {
			for behind := -8; behind < 3; behind++ {
				l := impl.Log{Room: len(data) + n + 7 + behind, Data: data}
				if l.Room < len(data) {
					continue
				}
				_, code := checkAppend(t, l, record)
				if (code == impl.OK) != (behind >= 0) || behind < 0 && code != impl.ErrFull {
					t.Errorf("LogAppend of %d bytes with %d to spare has the code %d", n, behind, code)
				}
			}
		}
	}
	// A log that is full has no room for the shortest record.
	full := impl.Log{Room: 8, Data: written("a")}
	if got, code := checkAppend(t, full, "b"); code != impl.ErrFull || got != full {
		t.Error("LogAppend to a full log:", code)
	}
}

// crashLogs are logs of some records, sure up to each place.
func crashLogs() []impl.Log {
	var list []impl.Log
	for _, records := range [][]string{nil, {"a"}, {"\x00"}, {"record", "more"}, {"\xff\xff\xff", "\x00", "b"}, {"a", "b", "c", "d"}, {written("a"), "b"}} {
		data := allWritten(records...)
		for sure := range len(data) + 1 {
			list = append(list, impl.Log{Room: len(data) + sure%3, Data: data, Sure: sure})
		}
	}
	return list
}

func TestCrashes(t *testing.T) {
	for _, l := range crashLogs() {
		all, _, _ := impl.LogRecords(l)
		sure, _, _ := impl.LogRecords(impl.Log{Room: l.Room, Data: l.Data[:l.Sure]})
		for keep := -2; keep <= len(l.Data)-l.Sure+2; keep++ {
			checkCrash(t, l, keep)
			crashed, code := impl.LogCrash(l, keep)
			size := min(max(l.Sure+keep, l.Sure), len(l.Data))
			checkLogAnswer(t, "LogCrash", l, crashed, sureLog(l.Room, l.Data[:size]), code, impl.OK)
			repaired, code := impl.LogRepair(crashed)
			if code != impl.OK || repaired.Sure != len(repaired.Data) || !strings.HasPrefix(crashed.Data, repaired.Data) {
				t.Errorf("LogRepair of %s = %s, %d", told(crashed), told(repaired), code)
			}
			left, size, code := impl.LogRecords(repaired)
			if code != impl.OK || size != len(repaired.Data) || len(left) < len(sure) || len(left) > len(all) || !slices.Equal(left, all[:len(left)]) {
				t.Errorf("behind a crash of %s, %d bytes kept, there is %s", told(l), keep, told(left))
			}
			again, code := impl.LogRepair(repaired)
			checkLogAnswer(t, "LogRepair, again", repaired, again, repaired, code, impl.OK)
		}
		for _, keep := range []int{math.MinInt, math.MinInt + 1, -1 << 32, 1 << 32, math.MaxInt - 1, math.MaxInt} {
			checkCrash(t, l, keep)
		}
	}
}

// A record is there just if its last byte was kept.
func TestCrashOfTheLast(t *testing.T) {
	for _, sure := range []bool{false, true} {
		l, _ := impl.NewLog(200)
		l, _ = impl.LogAppend(l, "first")
		if sure {
			l, _ = impl.LogSync(l)
		}
		l, _ = impl.LogAppend(l, "second")
		for size := l.Sure; size <= len(l.Data); size++ {
			crashed, _ := impl.LogCrash(l, size-l.Sure)
			repaired, code := impl.LogRepair(crashed)
			var want []string
			if size >= 12 {
				want = append(want, "first")
			}
			if size >= 25 {
				want = append(want, "second")
			}
			checkRecords(t, repaired, want, len(allWritten(want...)), impl.OK)
			if code != impl.OK || repaired.Room != 200 || repaired.Sure != len(repaired.Data) {
				t.Errorf("LogRepair of %s = %s, %d", told(crashed), told(repaired), code)
			}
			// What was cut off may be written once more.
			if again, code := impl.LogAppend(repaired, "third"); code != impl.OK || again.Sure != repaired.Sure {
				t.Errorf("LogAppend behind a repair = %s, %d", told(again), code)
			} else {
				checkRecords(t, again, append(want, "third"), len(again.Data), impl.OK)
			}
		}
	}
}

func TestBeginningsOfRecords(t *testing.T) {
	for _, ahead := range [][]string{nil, {"a"}, {"\xff\x00", "record"}} {
		data := allWritten(ahead...)
		for _, record := range []string{"a", "record", "\x00\x00\x00", strings.Repeat("\xff", 300), strings.Repeat("r", 20000)} {
			for n := 1; n < 7+len(record); n++ {
				if n > 20 && n < len(record)-5 && n%97 > 0 {
					continue
				}
				l := impl.Log{Room: impl.MaxRoom, Data: data + written(record)[:n]}
				checkRecords(t, l, ahead, len(data), impl.ErrMore)
				repaired, code := impl.LogRepair(l)
				checkLogAnswer(t, "LogRepair", l, repaired, sureLog(impl.MaxRoom, data), code, impl.OK)
			}
		}
		// Six bytes are too few, whatever they are; that none are is no fault.
		for _, behind := range []string{"\x00", "\xff", "\x00\x00\x00", "\xff\xff\xff", "\x00\x4e\x21", "\x00\x00\x00\x00\x00\x00", "\xff\xff\xff\xff\xff\xff"} {
			checkRecords(t, impl.Log{Room: 100, Data: data + behind}, ahead, len(data), impl.ErrMore)
		}
		checkRecords(t, impl.Log{Room: 100, Data: data}, ahead, len(data), impl.OK)
	}
}

// withLength is a record's head that says a length, with the sum of that and of some bytes.
func withLength(size int, summed string) string {
	length := string([]byte{byte(size >> 16), byte(size >> 8), byte(size)})
	sum := impl.Check32([]byte(length + summed))
	return length + string([]byte{byte(sum >> 24), byte(sum >> 16), byte(sum >> 8), byte(sum)})
}

func TestLengthsThatAreTold(t *testing.T) {
	longest := strings.Repeat("r", 20001)
	for _, ahead := range [][]string{nil, {"a", "b"}} {
		data := allWritten(ahead...)
		check := func(behind string, code int) {
			t.Helper()
			l := impl.Log{Room: impl.MaxRoom, Data: data + behind}
			checkRecords(t, l, ahead, len(data), code)
			checkLog(t, l)
		}
		// A length out of its bounds is wrong, with a right sum and with a wrong one, though fewer bytes are left too.
		for _, size := range []int{0, 20001, 20002, 32768, 65535, 65536, 1 << 23, 1<<24 - 1} {
			for _, rest := range []string{"", "a", longest[:20000], longest} {
				summed := rest[:min(size, len(rest))]
				check(withLength(size, summed)+rest, impl.ErrSum)
				check(withLength(size, summed+"b")+rest, impl.ErrSum)
			}
		}
		// One within its bounds that says more than is left is not whole, whatever the sum is.
		for _, size := range []int{1, 2, 255, 256, 19999, 20000} {
			for _, rest := range []string{"", longest[:size/2], longest[:size-1]} {
				check(withLength(size, longest[:size])+rest, impl.ErrMore)
				check(withLength(size, rest)+rest, impl.ErrMore)
				check(withLength(size, "none")+rest, impl.ErrMore)
			}
			check(withLength(size, longest[1:size])+longest[:size], impl.ErrSum)
		}
	}
	l := impl.Log{Room: impl.MaxRoom, Data: withLength(20000, longest[:20000]) + longest[:20000]}
	checkRecords(t, l, []string{longest[:20000]}, 20007, impl.OK)
}

// Each bit of three records is turned; what stands ahead of it is read.
func TestWrongBits(t *testing.T) {
	records := []string{"first", "\x00\xff", "record of the end"}
	data := allWritten(records...)
	begin := 0
	for k, record := range records {
		for i := range 7 + len(record) {
			for bit := range 8 {
				b := []byte(data)
				b[begin+i] ^= 1 << bit
				l := sureLog(100, string(b))
				size := len(record)
				if i < 3 {
					size ^= 1 << bit << (16 - 8*i)
				}
				code := impl.ErrSum
				if size <= 20000 && begin+7+size > len(data) {
					code = impl.ErrMore
				}
				checkRecords(t, l, records[:k], begin, code)
				checkLog(t, l)
			}
		}
		begin += 7 + len(record)
	}
}

func TestWrongSums(t *testing.T) {
	longest := string(madeBytes(20000, 7))
	for _, records := range [][]string{{"a"}, {"a", "b"}, {longest}, {longest, longest, "c"}} {
		data := allWritten(records...)
		begin := 0
		for k, record := range records {
			for _, i := range []int{3, 4, 5, 6, 7, 6 + len(record)} {
				b := []byte(data)
				b[begin+i] ^= 0x10
				l := impl.Log{Room: impl.MaxRoom, Data: string(b), Sure: len(b) / 2}
				checkRecords(t, l, records[:k], begin, impl.ErrSum)
				repaired, code := impl.LogRepair(l)
				checkLogAnswer(t, "LogRepair", l, repaired, l, code, impl.ErrSum)
			}
			begin += 7 + len(record)
		}
	}
	// Of two faults the one ahead counts.
	wrong := written("a")[:7] + "b"
	checkRecords(t, impl.Log{Room: 100, Data: wrong + written("c")[:6]}, nil, 0, impl.ErrSum)
	checkRecords(t, impl.Log{Room: 100, Data: written("a") + written("record")[:9] + wrong}, []string{"a"}, 8, impl.ErrSum)
	// The sum of the record alone, and the bytes of the sum the other way round, are wrong ones.
	checkRecords(t, impl.Log{Room: 100, Data: "\x00\x00\x01\xe8\xb7\xbe\x43a"}, nil, 0, impl.ErrSum)
	checkRecords(t, impl.Log{Room: 100, Data: "\x00\x00\x01\x93\xbf\xea\x02a"}, nil, 0, impl.ErrSum)
	checkRecords(t, impl.Log{Room: 100, Data: "\x00\x00\x01\x02\xea\xbf\x93a"}, []string{"a"}, 8, impl.OK)
}

func TestRepairsOfUnsure(t *testing.T) {
	one, two := written("a"), written("record")
	for data, want := range map[string]string{"": "", one: one, one + two: one + two, one + two[:1]: one, one + two[:6]: one, one + two[:12]: one, two[:5]: ""} {
		for sure := range len(data) + 1 {
			l := impl.Log{Room: 50, Data: data, Sure: sure}
			got, code := impl.LogRepair(l)
			checkLogAnswer(t, "LogRepair", l, got, sureLog(50, want), code, impl.OK)
		}
	}
}

// Logs by all signs of short texts: heads of small records are among them.
func TestTextsAsLogs(t *testing.T) {
	for n := range 6 {
		signsOf("\x00\x01\xff", n, func(x string) {
			checkLog(t, impl.Log{Room: 20, Data: x, Sure: n / 2})
			checkLog(t, impl.Log{Room: 20, Data: x + "\x00\x00\x01", Sure: n})
		})
	}
	pieces := []string{written("a"), written("\x00"), written("record")[:9], "\x00", written("b")[:7], written("\xff\xff"), "\x00\x00\x02"}
	for n := range 5 {
		piecesOf(pieces, n, func(x string) { checkLog(t, impl.Log{Room: 100, Data: x, Sure: len(x) / 2}) })
	}
	changed(written("a")+written("bc"), func(x string) { checkRepair(t, impl.Log{Room: 40, Data: x}) })
}

// A log that is appended to, synced, crashed and repaired by chance has what was sure and a beginning of the rest.
func TestRunsOfLogs(t *testing.T) {
	source := rand.New(rand.NewSource(9))
	for range 300 {
		l, _ := impl.NewLog(source.Intn(400))
		var all []string
		sure := 0
		for range 40 {
			switch source.Intn(8) {
			case 0:
				l, _ = impl.LogSync(l)
				sure = len(all)
			case 1:
				crashed, _ := impl.LogCrash(l, source.Intn(60)-5)
				repaired, code := impl.LogRepair(crashed)
				left, _, _ := impl.LogRecords(repaired)
				if code != impl.OK || len(left) < sure || len(left) > len(all) {
					t.Fatalf("of %d records, %d of them sure, %d are left: %d", len(all), sure, len(left), code)
				}
				l, all, sure = repaired, all[:len(left)], len(left)
			default:
				record := string(madeBytes(source.Intn(50), source.Intn(1000)))
				next, code := checkAppend(t, l, record)
				if code == impl.OK {
					all = append(all, record)
				}
				l = next
			}
			checkRecords(t, l, all, len(allWritten(all...)), impl.OK)
			if l.Sure != len(allWritten(all[:sure]...)) {
				t.Fatalf("%d bytes are sure of %d records", l.Sure, sure)
			}
		}
	}
}
