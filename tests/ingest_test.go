package tests

import (
	"fmt"
	"math"
	"math/rand"
	"slices"
	"strings"
	"testing"

	"loop.example/g00268/impl"
)

// logOf is a log of mutations, all sure, whether they can be done or not.
func logOf(room int, list ...impl.Mutation) impl.Log {
	data := ""
	for _, m := range list {
		data += written(string(writtenMutation(m)))
	}
	return sureLog(room, data)
}

// engineOf is the engine of mutations that can all be done.
func engineOf(room int, list ...impl.Mutation) impl.Engine {
	var boxes []impl.Box
	for _, m := range list {
		next, code := mutatedBoxes(boxes, m)
		if code != impl.OK {
			panic(told(m))
		}
		boxes = next
	}
	return impl.Engine{Log: logOf(room, list...), Boxes: boxes}
}

// plainMutations is ones of all four kinds that can be done one behind the other.
func plainMutations() []impl.Mutation {
	return []impl.Mutation{
		madeBox("news"), added("news", "key 1", "key 2", "key 3"), madeBox("more"), flagged("news", 2, impl.MoSet, impl.FlDeleted|impl.FlSeen), added("more", "key 1"), flagged("news", 3, impl.MoAdd, impl.FlDraft), expunged("news"), added("news", "key 4"), flagged("news", 3, impl.MoLess, 31),
	}
}

// fullMutations make a box of all the mails that there may be, spentMutations one of all the keys, with room for mails.
func fullMutations(name string) []impl.Mutation {
	return []impl.Mutation{madeBox(name), added(name, keysOf(30)[:20]...), added(name, keysOf(30)[20:]...)}
}

func spentMutations(name string) []impl.Mutation {
	list := []impl.Mutation{madeBox(name)}
	for i := range 3 {
		list = append(list, added(name, keysOf(60)[20*i:20*i+20]...))
		for uid := 20*i + 1; uid < 20*i+20; uid++ {
			list = append(list, flagged(name, uid, impl.MoSet, impl.FlDeleted))
		}
		list = append(list, expunged(name))
	}
	return list
}

// someEngines is right ones: new, in use, full in one way or the other.
func someEngines() []impl.Engine {
	plain := plainMutations()
	used := engineOf(impl.MaxRoom, plain...)
	tight := engineOf(len(used.Log.Data), plain...)
	four := []impl.Mutation{madeBox("news"), madeBox("b"), madeBox("c"), madeBox("d")}
	return []impl.Engine{
		{}, {Log: impl.Log{Room: 30}}, {Log: impl.Log{Room: impl.MaxRoom}}, engineOf(1000, madeBox("news")), used, tight, engineOf(1000, four...), engineOf(impl.MaxRoom, fullMutations("news")...), engineOf(impl.MaxRoom, spentMutations("news")...),
	}
}

func TestNewEngines(t *testing.T) {
	for _, room := range []int{0, 1, 14, 15, 1000, 59999, 60000} {
		e, code := impl.NewEngine(room)
		if code != impl.OK || !sameAnswer(e, impl.Engine{Log: impl.Log{Room: room}}) {
			t.Errorf("NewEngine of %d = %s, %d", room, told(e), code)
		}
		checkEngine(t, e, 0)
	}
	for _, room := range []int{-1, -2, 60001, 65536, 1 << 32, -1 << 32, math.MaxInt, math.MinInt} {
		if e, code := impl.NewEngine(room); code != impl.ErrRange || !sameAnswer(e, impl.Engine{}) {
			t.Errorf("NewEngine of %d = %s, %d", room, told(e), code)
		}
	}
}

func TestRightEngines(t *testing.T) {
	for _, e := range someEngines() {
		records, _, _ := readLog(e.Log.Data)
		checkEngine(t, e, len(records))
		// An empty list is nil.
		if e.Boxes == nil {
			e.Boxes = []impl.Box{}
		}
		for i := range e.Boxes {
			e.Boxes[i].Mails = append([]impl.Stored{}, e.Boxes[i].Mails...)
			e.Boxes[i].Keys = append([]string{}, e.Boxes[i].Keys...)
		}
		checkEngine(t, e, len(records))
	}
}

func TestCommitsInTheirOrder(t *testing.T) {
	e, _ := impl.NewEngine(2000)
	count := 0
	step := func(m impl.Mutation, code int) {
		t.Helper()
		next := checkCommitted(t, e, m, code)
		if code == impl.OK {
			count++
			if next.Log.Data != e.Log.Data+written(string(writtenMutation(m))) || next.Log.Room != 2000 {
				t.Errorf("behind %s the log is %s", told(m), told(next.Log))
			}
		}
		if code != impl.ErrBad {
			e = next
		}
		checkEngine(t, e, count)
	}
	step(added("news", "a"), impl.ErrNone)
	step(flagged("news", 1, impl.MoSet, 1), impl.ErrNone)
	step(expunged("news"), impl.ErrNone)
	step(madeBox("news"), impl.OK)
	step(madeBox("news"), impl.ErrTwice)
	step(expunged("news"), impl.OK)
	step(added("news", "a", "b", "a"), impl.ErrTwice)
	step(added("news", "a", "b", "c"), impl.OK)
	step(added("news"), impl.ErrBad)
	step(flagged("news", 4, impl.MoSet, 1), impl.ErrUid)
	step(flagged("news", 2, impl.MoSet, impl.FlSeen|impl.FlDeleted), impl.OK)
	step(flagged("news", 2, impl.MoSet, 32), impl.ErrBad)
	step(madeBox("more"), impl.OK)
	step(added("more", "a"), impl.OK)
	step(expunged("news"), impl.OK)
	step(flagged("news", 2, impl.MoAdd, 1), impl.ErrUid)
	step(added("news", "b"), impl.ErrTwice)
	step(added("news", "d"), impl.OK)
	step(flagged("news", 1, impl.MoAdd, 16), impl.OK)
	step(flagged("news", 1, impl.MoLess, 16), impl.OK)
	step(madeBox("third"), impl.OK)
	step(madeBox("fourth"), impl.OK)
	step(madeBox("fifth"), impl.ErrFull)
	step(madeBox("9"), impl.ErrBad)
	want := []impl.Box{
		{Name: "news", Valid: 1, Next: 5, Mails: []impl.Stored{{Uid: 1, Text: "text of a"}, {Uid: 3, Text: "text of c"}, {Uid: 4, Text: "text of d"}}, Keys: []string{"a", "b", "c", "d"}},
		{Name: "more", Valid: 2, Next: 2, Mails: []impl.Stored{{Uid: 1, Text: "text of a"}}, Keys: []string{"a"}},
		{Name: "third", Valid: 3, Next: 1}, {Name: "fourth", Valid: 4, Next: 1},
	}
	if !sameAnswer(e.Boxes, want) || count != 12 {
		t.Errorf("%d commits made %s, not %s", count, told(e.Boxes), told(want))
	}
}

func TestEveryCommitOfEveryEngine(t *testing.T) {
	for _, e := range someEngines() {
		records, _, _ := readLog(e.Log.Data)
		for _, name := range []string{"news", "more", "none"} {
			for _, m := range append(someMutations(name), mutationOfBytes(impl.MaxRecord+1), mutationOfBytes(4000)) {
				got, code := checkCommit(t, e, m)
				count := len(records)
				if code == impl.OK {
					count++
				}
				if code != impl.ErrBad {
					checkEngine(t, got, count)
				}
			}
		}
	}
}

// crashMutations is, for an engine with a box of news, ones that are done and ones that have each of the codes.
func crashMutations() []impl.Mutation {
	return []impl.Mutation{
		madeBox("other"), added("news", "new"), added("news", "new", "more", "last"), flagged("news", 1, impl.MoAdd, impl.FlDeleted), expunged("news"),
		madeBox("news"), added("none", "new"), added("news", "new", "new"), flagged("news", 1000, impl.MoSet, 1), added("news", keysOf(90)[70:]...),
	}
}

// Where the power goes while something is committed, it is done just if its last byte was kept.
func TestCrashesOfCommits(t *testing.T) {
	for i, e := range someEngines() {
		records, _, _ := readLog(e.Log.Data)
		for k, m := range crashMutations() {
			next, code := checkCommit(t, e, m)
			size := len(next.Log.Data) - len(e.Log.Data)
			for keep := -2; keep <= len(next.Log.Data)+3; keep++ {
				if i >= 7 && (k > 1 || keep > 200) && keep > 4 && (keep < size-2 || keep > size+2) && keep%97 > 0 {
					continue
				}
				want, count := e, len(records)
				if code == impl.OK && keep >= size {
					want, count = next, len(records)+1
				}
				got, crashCode := impl.CommitCrash(e, m, keep)
				if crashCode != impl.OK || !sameAnswer(got, want) || !impl.EngineOK(got) {
					t.Errorf("CommitCrash of %s, %s, %d = %s, %d, not %s", told(e), told(m), keep, told(got), crashCode, told(want))
				}
				if boxes, n, code := impl.ReplayLog(got.Log); n != count || code != impl.OK || !sameAnswer(boxes, got.Boxes) {
					t.Errorf("ReplayLog of %s = %s, %d, %d", told(got.Log), told(boxes), n, code)
				}
			}
			for _, keep := range []int{math.MinInt, math.MinInt + 1, -1 << 32, size - 1, size, 1 << 32, math.MaxInt - 1, math.MaxInt} {
				checkCommitCrash(t, e, m, keep)
			}
		}
	}
}

// What can not be committed is not written: the power goes, and nothing else does.
func TestCrashesOfNoCommits(t *testing.T) {
	e := engineOf(impl.MaxRoom, madeBox("a"))
	tight := engineOf(len(e.Log.Data)+4000, madeBox("a"))
	for _, keep := range []int{-1, 0, 1, 7, 20000, 20008, 60000, math.MaxInt} {
		for engine, m := range map[*impl.Engine]impl.Mutation{&e: mutationOfBytes(20001), &tight: mutationOfBytes(3994)} {
			if got := checkCommitCrash(t, *engine, m, keep); !sameAnswer(got, *engine) {
				t.Errorf("CommitCrash of %s, %s = %s", told(*engine), told(m), told(got))
			}
		}
		if got := checkCommitCrash(t, e, mutationOfBytes(20000), keep); (len(got.Boxes[0].Mails) > 0) != (keep >= 20007) {
			t.Errorf("CommitCrash of 20000 bytes, %d kept: %s", keep, told(got.Log))
		}
		if got := checkCommitCrash(t, tight, mutationOfBytes(3993), keep); (len(got.Boxes[0].Mails) > 0) != (keep >= 4000) {
			t.Errorf("CommitCrash into the last room, %d kept: %s", keep, told(got.Log))
		}
	}
}

// A log that was cut off at any byte begins anew, twice as once, with the mutations that are whole.
func TestBeginningAnew(t *testing.T) {
	list := plainMutations()
	whole := logOf(3000, list...)
	for size := range len(whole.Data) + 1 {
		count, begin := 0, 0
		for count < len(list) && len(logOf(3000, list[:count+1]...).Data) <= size {
			count++
			begin = len(logOf(3000, list[:count]...).Data)
		}
		want := engineOf(3000, list[:count]...)
		for _, sure := range []int{0, begin, size} {
			torn := impl.Log{Room: 3000, Data: whole.Data[:size], Sure: sure}
			checkReplayed(t, torn, want.Boxes, count, impl.OK)
			once, code := impl.LogRepair(torn)
			checkLogAnswer(t, "LogRepair", torn, once, want.Log, code, impl.OK)
			if begin < size && impl.EngineOK(impl.Engine{Log: torn, Boxes: want.Boxes}) {
				t.Errorf("an engine whose log ends at %d is right", size)
			}
			twice, _ := impl.LogRepair(once)
			boxes, n, code := checkReplay(t, twice)
			if twice != once || n != count || code != impl.OK {
				t.Errorf("begun anew twice: %s, not %s", told(twice), told(once))
			}
			checkEngine(t, impl.Engine{Log: twice, Boxes: boxes}, count)
		}
	}
	// A crash behind a crash, of a mutation that is done by then, too.
	e := engineOf(3000, list...)
	m := added("news", "new")
	for _, keep := range []int{0, 20, 1000} {
		once := checkCommitCrash(t, e, m, keep)
		for _, again := range []int{0, 20, 1000} {
			twice := checkCommitCrash(t, once, m, again)
			if done := keep == 1000 || again == 1000; len(twice.Boxes[0].Keys) != len(e.Boxes[0].Keys)+map[bool]int{true: 1}[done] {
				t.Errorf("crashes with %d and %d bytes left %s", keep, again, told(twice.Boxes))
			}
		}
	}
}

// changedLog is a log of the plain mutations with one byte turned.
func changedLog(place, bits int) impl.Log {
	l := logOf(3000, plainMutations()...)
	b := []byte(l.Data)
	b[place] ^= byte(bits)
	l.Data = string(b)
	return l
}

func TestLogsWithOtherSums(t *testing.T) {
	list := plainMutations()
	whole := engineOf(3000, list...)
	begin := 0
	for i, m := range list {
		size := len(writtenMutation(m))
		for at := range size + 7 {
			if at < 3 {
				continue
			}
			l := changedLog(begin+at, 0x40)
			checkReplayed(t, l, nil, 0, impl.ErrSum)
			if impl.EngineOK(impl.Engine{Log: l, Boxes: whole.Boxes}) || impl.EngineOK(impl.Engine{Log: l, Boxes: engineOf(3000, list[:i]...).Boxes}) {
				t.Errorf("with another byte %d the engine is right", begin+at)
			}
		}
		begin += 7 + size
	}
	// Each bit: what is read of it is what the other reader reads.
	for place := range begin {
		for bit := range 8 {
			l := changedLog(place, 1<<bit)
			_, _, code := checkReplay(t, l)
			if impl.EngineOK(impl.Engine{Log: l, Boxes: whole.Boxes}) || code != impl.OK && code != impl.ErrSum {
				t.Errorf("with bit %d of byte %d turned the engine is right, or has the code %d", bit, place, code)
			}
		}
	}
	// Bytes behind the records: too few, a length that none has, a sum that is not right.
	for behind, code := range map[string]int{"\x00": impl.OK, "\xff\xff\xff\xff\xff\xff": impl.OK, "\x00\x00\x00\x00\x00\x00\x00": impl.ErrSum, "\xff\xff\xff\xff\xff\xff\xff": impl.ErrSum, "\x00\x00\x02abcd": impl.OK, "\x00\x00\x02abcdef": impl.ErrSum, written("a")[:7]: impl.OK} {
		l := sureLog(3000, whole.Log.Data+behind)
		want, count := whole.Boxes, len(list)
		if code != impl.OK {
			want, count = nil, 0
		}
		checkReplayed(t, l, want, count, code)
		if impl.EngineOK(impl.Engine{Log: l, Boxes: whole.Boxes}) {
			t.Errorf("with %q behind the log the engine is right", behind)
		}
	}
}

// wrongRecords is records that are no mutations, and ones of mutations that can not be done behind the plain ones, nor ahead of them.
func wrongRecords() []string {
	list := []string{"a", "\x00", "record", strings.Repeat("\x00", 8), strings.Repeat("r", 20000), string(writtenMutation(madeBox("new"))) + "\x00", string(writtenMutation(madeBox("new")))[1:]}
	for _, m := range []impl.Mutation{{}, {Kind: 5, Box: "news"}, madeBox("9"), added("news"), flagged("news", 1, 4, 1), added("none", "k"), flagged("none", 1, 1, 1), expunged("none"), added("news", "same", "same"), flagged("news", 999, 1, 1)} {
		list = append(list, string(writtenMutation(m)))
	}
	return list
}

func TestLogsOfNoMutations(t *testing.T) {
	var plain []string
	for _, m := range plainMutations() {
		plain = append(plain, string(writtenMutation(m)))
	}
	whole := engineOf(impl.MaxRoom, plainMutations()...)
	for _, wrong := range wrongRecords() {
		for at := range len(plain) + 1 {
			data := allWritten(slices.Insert(slices.Clone(plain), at, wrong)...)
			l := sureLog(impl.MaxRoom, data)
			checkReplayed(t, l, nil, 0, impl.ErrForm)
			if impl.EngineOK(impl.Engine{Log: l, Boxes: whole.Boxes}) {
				t.Errorf("with %q at %d the engine is right", brief(wrong), at)
			}
			// It is told ahead of a sum that is not right, and of what is not whole.
			for _, behind := range []string{"\x00\x00\x00\x00\x00\x00\x00", "\x00\x00\x02abcdef", "\x00"} {
				checkReplayed(t, impl.Log{Room: impl.MaxRoom, Data: data + behind, Sure: at}, nil, 0, impl.ErrForm)
			}
			// What stands behind a sum that is not right is not looked at.
			checkReplayed(t, sureLog(impl.MaxRoom, "\x00\x00\x02abcdef"+data), nil, 0, impl.ErrSum)
		}
	}
	// Mutations that were done once are not done twice; those of flags, and of what is gone already, are.
	for i, m := range plainMutations() {
		l := logOf(impl.MaxRoom, append(plainMutations(), m)...)
		if m.Kind == impl.MuExpunge || m.Kind == impl.MuFlags && m.Uid != 2 {
			want, _ := mutatedBoxes(whole.Boxes, m)
			checkReplayed(t, l, want, len(plain)+1, impl.OK)
		} else {
			checkReplayed(t, l, nil, 0, impl.ErrForm)
		}
		if i == 0 || i == 1 {
			checkReplayed(t, logOf(impl.MaxRoom, plainMutations()[i+1:]...), nil, 0, impl.ErrForm)
		}
	}
	full := fullMutations("news")
	for _, m := range []impl.Mutation{added("news", "new"), added("news", "key 30"), madeBox("news")} {
		checkReplayed(t, logOf(impl.MaxRoom, append(full, m)...), nil, 0, impl.ErrForm)
	}
	checkReplayed(t, logOf(impl.MaxRoom, append(spentMutations("news"), added("news", "new"))...), nil, 0, impl.ErrForm)
	checkReplayed(t, logOf(impl.MaxRoom, madeBox("a"), madeBox("b"), madeBox("c"), madeBox("d"), madeBox("e")), nil, 0, impl.ErrForm)
}

func TestLogsThatAreNotRight(t *testing.T) {
	data := logOf(3000, plainMutations()...).Data
	for _, l := range []impl.Log{
		{Room: -1}, {Room: 60001}, {Room: math.MinInt}, {Room: math.MaxInt, Data: data}, {Room: len(data) - 1, Data: data}, {Room: len(data) - 1, Data: data, Sure: len(data)}, {Room: 3000, Data: data, Sure: -1}, {Room: 3000, Data: data, Sure: len(data) + 1}, {Room: 3000, Data: data, Sure: math.MaxInt}, {Sure: 1},
		{Room: 60000, Data: longText}, {Room: 60000, Data: endlessText}, {Room: 5, Data: "no mutation", Sure: 5}, {Room: 3, Data: data + "\x00"}, {Room: 10, Data: written("a") + "\x00\x00\x00\x00\x00\x00\x00"},
	} {
		checkReplayed(t, l, nil, 0, impl.ErrBad)
	}
	// How much of it is sure does not count.
	want := engineOf(3000, plainMutations()...)
	for sure := range len(data) + 1 {
		checkReplayed(t, impl.Log{Room: len(data), Data: data, Sure: sure}, want.Boxes, len(plainMutations()), impl.OK)
	}
	checkReplayed(t, impl.Log{}, nil, 0, impl.OK)
	checkReplayed(t, impl.Log{Room: impl.MaxRoom}, nil, 0, impl.OK)
	// As many records as a log has room for.
	many := []impl.Mutation{madeBox("a")}
	for range impl.MaxRoom/15 - 1 {
		many = append(many, expunged("a"))
	}
	checkReplayed(t, logOf(impl.MaxRoom, many...), []impl.Box{{Name: "a", Valid: 1, Next: 1}}, 4000, impl.OK)
}

// A log is just full behind a commit, or one byte too small for it.
func TestRoomOfCommits(t *testing.T) {
	for _, list := range [][]impl.Mutation{{madeBox("news")}, plainMutations()} {
		size := len(logOf(0, list...).Data)
		for _, m := range []impl.Mutation{madeBox("b"), added("news", "new"), added("news", keysOf(90)[70:]...), flagged("news", 1, 1, 1), expunged("news")} {
			if m.Kind == impl.MuFlags && len(list) == 1 {
				continue
			}
			need := 7 + len(writtenMutation(m))
			for behind := -need; behind < 3; behind++ {
				e := engineOf(size+need+behind, list...)
				code := impl.OK
				if behind < 0 {
					code = impl.ErrFull
				}
				got := checkCommitted(t, e, m, code)
				if behind == 0 && len(got.Log.Data) != got.Log.Room {
					t.Errorf("a log is not full behind %s", told(m))
				}
				if behind == 0 {
					checkCommitted(t, got, expunged("news"), impl.ErrFull)
				}
			}
		}
	}
	// Nothing has room in a log of none, and in one of fewer bytes than a record.
	for room := range 15 {
		checkCommitted(t, impl.Engine{Log: impl.Log{Room: room}}, madeBox("a"), impl.ErrFull)
	}
	got := checkCommitted(t, impl.Engine{Log: impl.Log{Room: 15}}, madeBox("a"), impl.OK)
	checkCommitted(t, got, expunged("a"), impl.ErrFull)
	// The greatest room, filled up to its last byte.
	e := engineOf(impl.MaxRoom, madeBox("a"))
	for i, size := range []int{20000, 20000} {
		m := mutationOfBytes(size)
		for k := range m.Items {
			m.Items[k].Key = string(rune('a' + 6*i + k))
		}
		e = checkCommitted(t, e, m, impl.OK)
	}
	left := impl.MaxRoom - len(e.Log.Data) - 7
	for _, more := range []int{1, 0} {
		m := mutationOfBytes(left + more)
		for k := range m.Items {
			m.Items[k].Key = string(rune('A' + k))
		}
		checkCommitted(t, e, m, map[int]int{0: impl.OK, 1: impl.ErrFull}[more])
	}
}

func TestLengthsOfCommits(t *testing.T) {
	e := engineOf(impl.MaxRoom, madeBox("a"))
	for _, n := range []int{13, 4000, 19999, 20000} {
		got := checkCommitted(t, e, mutationOfBytes(n), impl.OK)
		if len(got.Log.Data) != len(e.Log.Data)+7+n {
			t.Errorf("a mutation of %d bytes leads the log from %d to %d", n, len(e.Log.Data), len(got.Log.Data))
		}
		checkEngine(t, got, 2)
	}
	for _, n := range []int{20001, 20002, 30000, 59970, 65536, 65537, 80000} {
		checkCommitted(t, e, mutationOfBytes(n), impl.ErrFull)
	}
}

// What the mutation itself has for a code is told ahead of a record that is too long, or has no room.
func TestFaultsOfCommits(t *testing.T) {
	long := mutationOfBytes(20001)
	twice, none := mutationOfBytes(20001), mutationOfBytes(20001)
	twice.Items[4].Key = twice.Items[0].Key
	none.Box = "b"
	for _, room := range []int{15, impl.MaxRoom} {
		e := engineOf(room, madeBox("a"))
		checkCommitted(t, e, long, impl.ErrFull)
		checkCommitted(t, e, twice, impl.ErrTwice)
		checkCommitted(t, e, none, impl.ErrNone)
		checkCommitted(t, e, madeBox("a"), impl.ErrTwice)
		checkCommitted(t, e, flagged("a", 1, 1, 1), impl.ErrUid)
	}
	full, spent := append(fullMutations("a"), madeBox("b")), spentMutations("a")
	for _, list := range [][]impl.Mutation{full, spent} {
		tight := engineOf(len(logOf(0, list...).Data), list...)
		checkCommitted(t, tight, added("a", "key 1"), impl.ErrTwice)
		checkCommitted(t, tight, flagged("a", 61, 1, 1), impl.ErrUid)
		checkCommitted(t, tight, expunged("a"), impl.ErrFull)
	}
	checkCommitted(t, engineOf(len(logOf(0, spent...).Data), spent...), added("a", "new"), impl.ErrUid)
	// A wrong mutation is told ahead of all of them.
	wrong := mutationOfBytes(20001)
	wrong.Items[0].Key = ""
	checkCommitted(t, engineOf(15, madeBox("a")), wrong, impl.ErrBad)
}

func TestWrongMutationsOfEngines(t *testing.T) {
	for _, e := range []impl.Engine{{}, engineOf(1000, madeBox("a")), engineOf(15, madeBox("a"))} {
		for _, m := range wrongMutations() {
			checkCommitted(t, e, m, impl.ErrBad)
			for _, keep := range []int{math.MinInt, 0, 1000} {
				if got := checkCommitCrash(t, e, m, keep); !sameAnswer(got, impl.Engine{}) {
					t.Errorf("CommitCrash of %s = %s", told(m), told(got))
				}
			}
		}
	}
}

// wrongEngines is the engine of the plain mutations with one thing wrong in each.
func wrongEngines() []impl.Engine {
	var list []impl.Engine
	change := func(change func(e *impl.Engine)) {
		e := engineOf(3000, plainMutations()...)
		change(&e)
		list = append(list, e)
	}
	whole := len(engineOf(3000, plainMutations()...).Log.Data)
	// A log that is not all sure, is torn, or is not right.
	for _, sure := range []int{0, 1, whole - 1, whole + 1, -1, math.MaxInt, math.MinInt} {
		change(func(e *impl.Engine) { e.Log.Sure = sure })
	}
	for _, room := range []int{-1, 0, whole - 1, 60001, math.MaxInt, math.MinInt} {
		change(func(e *impl.Engine) { e.Log.Room = room })
	}
	for _, size := range []int{0, 1, 15, 16, whole - 20, whole - 1} {
		change(func(e *impl.Engine) { e.Log = sureLog(3000, e.Log.Data[:size]) })
		change(func(e *impl.Engine) { e.Log.Data = e.Log.Data[:size] })
	}
	for _, behind := range []string{"\x00", "\x00\x00\x00\x00\x00\x00\x00", "\x00\x00\x01abcd", written("a"), written("a")[:7], logOf(0, madeBox("third")).Data, logOf(0, madeBox("news")).Data, logOf(0, flagged("news", 1, 1, 1)).Data} {
		change(func(e *impl.Engine) { e.Log = sureLog(3000, e.Log.Data+behind) })
		change(func(e *impl.Engine) { e.Log.Data += behind })
	}
	for _, place := range []int{0, 3, 7, 8, whole - 1} {
		change(func(e *impl.Engine) { e.Log = changedLog(place, 1) })
	}
	// Boxes that are not right, or others than the log makes.
	change(func(e *impl.Engine) { e.Boxes = nil })
	change(func(e *impl.Engine) { e.Boxes = e.Boxes[:1] })
	change(func(e *impl.Engine) { e.Boxes = e.Boxes[1:] })
	change(func(e *impl.Engine) { e.Boxes = append(e.Boxes, plainBox("a", 3)) })
	change(func(e *impl.Engine) { e.Boxes = append(e.Boxes, impl.Box{}) })
	change(func(e *impl.Engine) { e.Boxes = append(e.Boxes, e.Boxes...) })
	change(func(e *impl.Engine) { e.Boxes = make([]impl.Box, 5000) })
	change(func(e *impl.Engine) { e.Boxes[0], e.Boxes[1] = e.Boxes[1], e.Boxes[0] })
	for _, k := range []int{0, 1} {
		change(func(e *impl.Engine) { e.Boxes[k].Name = "other" })
		change(func(e *impl.Engine) { e.Boxes[k].Name = "" })
		change(func(e *impl.Engine) { e.Boxes[k].Valid++ })
		change(func(e *impl.Engine) { e.Boxes[k].Next++ })
		change(func(e *impl.Engine) {
			e.Boxes[k].Next, e.Boxes[k].Keys = e.Boxes[k].Next+1, append(e.Boxes[k].Keys, "more")
		})
		change(func(e *impl.Engine) { e.Boxes[k].Keys[0] = "other" })
		change(func(e *impl.Engine) { e.Boxes[k].Keys = e.Boxes[k].Keys[1:] })
		change(func(e *impl.Engine) { e.Boxes[k].Mails = e.Boxes[k].Mails[1:] })
		change(func(e *impl.Engine) { e.Boxes[k].Mails[0].Uid = 0 })
		change(func(e *impl.Engine) { e.Boxes[k].Mails[0].Flags ^= 1 })
		change(func(e *impl.Engine) { e.Boxes[k].Mails[0].Flags = 32 })
		change(func(e *impl.Engine) { e.Boxes[k].Mails[0].Text += "x" })
		change(func(e *impl.Engine) { e.Boxes[k].Mails[0].Text = endlessText })
	}
	// Records that are no mutations, or ones that can not be done, make no boxes, not even none.
	for _, record := range wrongRecords() {
		list = append(list, impl.Engine{Log: sureLog(impl.MaxRoom, written(record))})
	}
	return append(list, impl.Engine{Boxes: []impl.Box{boxOf("news", 1, 0)}}, impl.Engine{Log: impl.Log{Room: 100}, Boxes: []impl.Box{plainBox("news", 1)}}, impl.Engine{Log: impl.Log{Room: -1}})
}

func TestWrongEngines(t *testing.T) {
	for _, e := range wrongEngines() {
		checkWrongEngine(t, e)
	}
}

// Engines that are committed to, polled into and cut off by chance keep their boxes to their log, and their uids, keys and mails.
func TestHistoriesOfEngines(t *testing.T) {
	codes := map[int]int{}
	for seed := range int64(40) {
		source := rand.New(rand.NewSource(seed))
		h := history{map[string]string{}, map[string]int{}, map[string]bool{}}
		e, _ := impl.NewEngine([]int{impl.MaxRoom, 3000, 1000}[seed%3])
		count := 0
		for range 80 {
			next, code, more := stepOf(t, source, e)
			codes[code]++
			if code == impl.ErrBad {
				continue
			}
			if code != impl.OK && !sameAnswer(next, e) {
				t.Fatalf("with the code %d %s became %s", code, told(e), told(next))
			}
			h.look(t, e.Boxes, next.Boxes)
			count += more
			checkEngine(t, next, count)
			e = next
		}
	}
	for _, code := range []int{impl.OK, impl.ErrBad, impl.ErrNone, impl.ErrTwice, impl.ErrUid, impl.ErrFull, impl.ErrClose} {
		if codes[code] < 10 {
			t.Errorf("the histories have the code %d only %d times", code, codes[code])
		}
	}
}

// stepOf does one thing to an engine, and tells how many records came to its log.
func stepOf(t *testing.T, source *rand.Rand, e impl.Engine) (impl.Engine, int, int) {
	t.Helper()
	m := madeMutation(source)
	switch source.Intn(5) {
	case 0:
		var ids []string
		for range source.Intn(6) {
			ids = append(ids, fmt.Sprint("k", source.Intn(200)))
		}
		next, n, code := checkPoll(t, e, m.Box, oneOf(source, feedOfIds(ids...), itemsOfIds(ids...), "<feed>"))
		if n > 0 {
			n = 1
		}
		return next, code, n
	case 1:
		keep := source.Intn(100)
		_, code := commitOf(e, m)
		next := checkCommitCrash(t, e, m, keep)
		if code == impl.OK && keep >= 7+len(writtenMutation(m)) {
			return next, code, 1
		}
		return next, code, 0
	}
	next, code := checkCommit(t, e, m)
	if code == impl.OK {
		return next, code, 1
	}
	return next, code, 0
}
