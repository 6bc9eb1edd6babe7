package tests

import (
	"bytes"
	"fmt"
	"math"
	"math/rand"
	"slices"
	"strings"
	"testing"

	"loop.example/g00268/impl"
)

// keysOf is so many keys, no two alike.
func keysOf(n int) []string {
	var list []string
	for i := range n {
		list = append(list, fmt.Sprintf("key %d", i+1))
	}
	return list
}

// boxOf is a box that gave so many uids, and has those that are named.
func boxOf(name string, valid, count int, uids ...int) impl.Box {
	b := impl.Box{Name: name, Valid: valid, Next: count + 1, Keys: keysOf(count)}
	for _, uid := range uids {
		b.Mails = append(b.Mails, impl.Stored{Uid: uid, Flags: uid % 32, Text: fmt.Sprintf("mail %d", uid)})
	}
	return b
}

// upTo is the uids from one to another.
func upTo(from, to int) []int {
	var list []int
	for uid := from; uid <= to; uid++ {
		list = append(list, uid)
	}
	return list
}

func plainBox(name string, valid int) impl.Box { return boxOf(name, valid, 5, 1, 3, 4) }

func madeBox(name string) impl.Mutation { return impl.Mutation{Kind: impl.MuBox, Box: name} }

func expunged(name string) impl.Mutation { return impl.Mutation{Kind: impl.MuExpunge, Box: name} }

func flagged(name string, uid, mode, flags int) impl.Mutation {
	return impl.Mutation{Kind: impl.MuFlags, Box: name, Uid: uid, Mode: mode, Flags: flags}
}

// added is a mutation that adds an item of each key.
func added(name string, keys ...string) impl.Mutation {
	m := impl.Mutation{Kind: impl.MuAdd, Box: name}
	for _, key := range keys {
		m.Items = append(m.Items, impl.Item{Key: key, Text: "text of " + key})
	}
	return m
}

// someMutations is right ones of all four kinds, and wrong ones.
func someMutations(name string) []impl.Mutation {
	return []impl.Mutation{
		madeBox(name), madeBox("other"), added(name, "new"), added(name, "new", "key 1"), added(name, "new", "new"), added(name, "key 2"), added(name, keysOf(20)...), flagged(name, 1, impl.MoSet, 0), flagged(name, 3, impl.MoAdd, 8), flagged(name, 4, impl.MoLess, 31), flagged(name, 2, impl.MoSet, 1), flagged(name, 1000, impl.MoSet, 1), expunged(name),
		{}, {Kind: 5, Box: name}, added(name), added(name, ""), flagged(name, 0, 1, 1), flagged(name, 1, 4, 1), madeBox("9"),
	}
}

func TestBoundsOfBoxes(t *testing.T) {
	if impl.MaxBoxes != 4 || impl.MaxMails != 30 || impl.MaxKeys != 60 || impl.MaxUid != 1000 || impl.MaxLetter != 4000 {
		t.Error("the bounds of boxes")
	}
	if impl.FlSeen != 1 || impl.FlAnswered != 2 || impl.FlFlagged != 4 || impl.FlDeleted != 8 || impl.FlDraft != 16 {
		t.Error("the flags")
	}
	if impl.MuBox != 1 || impl.MuAdd != 2 || impl.MuFlags != 3 || impl.MuExpunge != 4 || impl.MoSet != 1 || impl.MoAdd != 2 || impl.MoLess != 3 {
		t.Error("the kinds and modes of mutations")
	}
}

func TestRightBoxes(t *testing.T) {
	for _, name := range []string{"a", "_", "Z9", strings.Repeat("n", 40)} {
		checkBox(t, impl.Box{Name: name, Valid: 1, Next: 1})
		checkBox(t, plainBox(name, 1000000))
	}
	for _, b := range []impl.Box{
		boxOf("a", 1, 0), boxOf("a", 2, 1), boxOf("a", 2, 1, 1), boxOf("a", 999999, 2, 2), boxOf("a", 1000000, 60, 60), boxOf("a", 1, 60, 1), boxOf("a", 1, 60), boxOf("a", 1, 59, 59),
		boxOf("a", 1, 30, upTo(1, 30)...), boxOf("a", 1, 31, upTo(2, 31)...), boxOf("a", 1, 60, upTo(1, 30)...), boxOf("a", 1, 60, upTo(31, 60)...), boxOf("a", 1, 31, upTo(1, 29)...),
	} {
		checkBox(t, b)
		checkBox(t, impl.Box{Name: b.Name, Valid: b.Valid, Next: b.Next, Mails: append([]impl.Stored{}, b.Mails...), Keys: append([]string{}, b.Keys...)})
	}
	for flags := range 32 {
		b := plainBox("a", 1)
		b.Mails[1].Flags = flags
		checkBox(t, b)
	}
	for _, text := range []string{"", "a", "\xff\x00", strings.Repeat("x", 3999), strings.Repeat("x", 4000)} {
		b := plainBox("a", 1)
		b.Mails[2].Text = text
		checkBox(t, b)
	}
	for _, key := range []string{"a", "\x00", "\xff", "two\r\nlines", strings.Repeat("k", 199), strings.Repeat("k", 200)} {
		for i := range 5 {
			b := plainBox("a", 1)
			b.Keys[i] = key
			checkBox(t, b)
		}
	}
	// Mails, and keys of other boxes, may be alike.
	b := boxOf("a", 1, 3, 1, 2, 3)
	for i := range b.Mails {
		b.Mails[i].Text = "the same"
	}
	checkBox(t, b)
}

// changedBox is a plain box to which something was done.
func changedBox(change func(b *impl.Box)) impl.Box {
	b := plainBox("a", 1)
	change(&b)
	return b
}

func TestWrongBoxes(t *testing.T) {
	for _, name := range []string{"", "9", "a b", "a-b", "\u00e4", "a\n", strings.Repeat("n", 41), longText} {
		checkWrongBox(t, plainBox(name, 1))
		checkWrongBox(t, impl.Box{Name: name, Valid: 1, Next: 1})
	}
	for _, valid := range []int{0, -1, 1000001, 1 << 32, 1<<32 + 1, math.MaxInt, math.MinInt} {
		checkWrongBox(t, plainBox("a", valid))
	}
	for _, next := range []int{0, -1, 1, 2, 5, 7, 61, 62, 1000, 1001, 1002, math.MaxInt, math.MinInt} {
		checkWrongBox(t, changedBox(func(b *impl.Box) { b.Next = next }))
	}
	for _, next := range []int{0, -1, 2, 61, 1001, 1002, math.MaxInt, math.MinInt} {
		checkWrongBox(t, impl.Box{Name: "a", Valid: 1, Next: next})
	}
	// So many keys as Next asks for, but more than may be.
	for _, count := range []int{61, 62, 999, 1000, 1001, 5000} {
		checkWrongBox(t, boxOf("a", 1, count))
		checkWrongBox(t, boxOf("a", 1, count, 1, 2, 3))
	}
	checkWrongBox(t, boxOf("a", 1, 31, upTo(1, 31)...))
	checkWrongBox(t, boxOf("a", 1, 60, upTo(1, 60)...))
	checkWrongBox(t, changedBox(func(b *impl.Box) { b.Mails = make([]impl.Stored, 5000) }))
	for _, uids := range [][]int{{0}, {-1}, {6}, {7}, {1000}, {math.MaxInt}, {math.MinInt}, {0, 1}, {1, 1}, {2, 1}, {1, 3, 3}, {1, 3, 2}, {5, 4, 3}, {1, 2, 6}, {1, 2, 3, 4, 5, 5}, {5, 1}, {-1, 1}, {math.MinInt, 1}} {
		checkWrongBox(t, boxOf("a", 1, 5, uids...))
	}
	checkWrongBox(t, boxOf("a", 1, 0, 1))
	for i := range 3 {
		for _, flags := range []int{-1, -8, 32, 33, 256, 1 << 32, math.MaxInt, math.MinInt} {
			checkWrongBox(t, changedBox(func(b *impl.Box) { b.Mails[i].Flags = flags }))
		}
		for _, n := range []int{4001, 4002, impl.MaxText, impl.MaxText + 1} {
			checkWrongBox(t, changedBox(func(b *impl.Box) { b.Mails[i].Text = strings.Repeat("x", n) }))
		}
	}
	for i := range 5 {
		for _, n := range []int{0, 201, 202, 4000, impl.MaxText + 1} {
			checkWrongBox(t, changedBox(func(b *impl.Box) { b.Keys[i] = strings.Repeat("k", n) }))
		}
		for j := range 5 {
			if j != i {
				checkWrongBox(t, changedBox(func(b *impl.Box) { b.Keys[i] = b.Keys[j] }))
			}
		}
		checkWrongBox(t, changedBox(func(b *impl.Box) { b.Keys = slices.Delete(b.Keys, i, i+1) }))
		checkWrongBox(t, changedBox(func(b *impl.Box) { b.Keys = slices.Insert(b.Keys, i, "more") }))
	}
	checkWrongBox(t, changedBox(func(b *impl.Box) { b.Keys = append(b.Keys, "more") }))
	checkWrongBox(t, changedBox(func(b *impl.Box) { b.Keys = nil }))
	checkWrongBox(t, changedBox(func(b *impl.Box) { b.Keys = keysOf(5000) }))
	checkWrongBox(t, impl.Box{Name: "a", Valid: 1, Next: 1, Keys: []string{""}})
	checkWrongBox(t, impl.Box{})
}

// someStores is right boxes, none to all of them that there may be.
func someStores() [][]impl.Box {
	full := boxOf("full", 1, 30, upTo(1, 30)...)
	spent := boxOf("spent", 2, 60, 3, 7, 60)
	return [][]impl.Box{
		nil, {boxOf("first", 1, 0)}, {plainBox("first", 1)}, {plainBox("other", 1), plainBox("first", 2)}, {boxOf("first", 1, 30, upTo(1, 30)...)}, {boxOf("first", 1, 60, 1, 8, 9)},
		{full, spent, plainBox("first", 3)}, {full, spent, plainBox("first", 3), plainBox("last", 4)}, {plainBox("A", 1), plainBox("a", 2), plainBox("_", 3), plainBox("first", 4)},
	}
}

func TestRightStores(t *testing.T) {
	for _, list := range append(someStores(), []impl.Box{}) {
		if !impl.StoreOK(list) || !rightStore(list) {
			t.Errorf("%s are not right", told(list))
		}
		for _, b := range list {
			got, code := impl.BoxAt(list, b.Name)
			if !sameAnswer(got, b) || code != impl.OK {
				t.Errorf("BoxAt of %q = %s, %d, not %s", b.Name, told(got), code, told(b))
			}
			checkBox(t, b)
		}
		for _, name := range []string{"", "none", "9", "FIRST", "firs", "first ", "first2", "\xff", fullText} {
			if got, code := impl.BoxAt(list, name); !sameAnswer(got, impl.Box{}) || code != impl.ErrNone {
				t.Errorf("BoxAt of %q = %s, %d", brief(name), told(got), code)
			}
		}
		for _, name := range []string{longText, endlessText} {
			if got, code := impl.BoxAt(list, name); !sameAnswer(got, impl.Box{}) || code != impl.ErrLong {
				t.Errorf("BoxAt of %d bytes = %s, %d", len(name), told(got), code)
			}
		}
	}
}

func TestWrongStores(t *testing.T) {
	four := []impl.Box{plainBox("a", 1), plainBox("b", 2), plainBox("c", 3), plainBox("first", 4)}
	checkWrongStore(t, append(slices.Clone(four), plainBox("e", 5)))
	checkWrongStore(t, append(slices.Clone(four), plainBox("a", 5)))
	checkWrongStore(t, append(slices.Clone(four), impl.Box{}))
	for i := range four {
		for _, valid := range []int{i, i + 2, 0, 1000000, 1000001, -1, math.MaxInt, math.MinInt} {
			list := slices.Clone(four)
			list[i].Valid = valid
			if valid != i+1 {
				checkWrongStore(t, list)
			}
		}
		for j := range four {
			list := slices.Clone(four)
			list[i], list[j] = list[j], list[i]
			if i != j {
				checkWrongStore(t, list)
				list = slices.Clone(four)
				list[i].Name = list[j].Name
				checkWrongStore(t, list)
			}
		}
		if i < 3 {
			checkWrongStore(t, slices.Delete(slices.Clone(four), i, i+1))
		}
		list := slices.Clone(four)
		list[i].Keys = list[i].Keys[1:]
		checkWrongStore(t, list)
	}
	checkWrongStore(t, []impl.Box{{}})
	for _, n := range []int{6, impl.MaxList, impl.MaxList + 1, 3 * impl.MaxList} {
		checkWrongStore(t, make([]impl.Box, n))
	}
}

func TestLongArgumentsOfBoxes(t *testing.T) {
	long := make([]impl.Box, impl.MaxList+1)
	for _, name := range []string{"", "a", fullText, longText} {
		if got, code := impl.BoxAt(long, name); !sameAnswer(got, impl.Box{}) || code != impl.ErrLong {
			t.Errorf("BoxAt = %s, %d", told(got), code)
		}
	}
	// ErrLong of one list comes ahead of ErrBad of the other.
	for _, other := range [][]impl.Box{nil, {{}}, long, {plainBox("a", 1)}} {
		for _, lists := range [][2][]impl.Box{{long, other}, {other, long}} {
			if same, code := impl.SameStore(lists[0], lists[1]); same || code != impl.ErrLong {
				t.Errorf("SameStore of %d and %d boxes = %t, %d", len(lists[0]), len(lists[1]), same, code)
			}
		}
	}
	if got, code := impl.BoxAt([]impl.Box{{}}, longText); !sameAnswer(got, impl.Box{}) || code != impl.ErrLong {
		t.Errorf("BoxAt = %s, %d", told(got), code)
	}
	for _, m := range someMutations("a") {
		if got, code := impl.ApplyMutation(long, m); got != nil || code != impl.ErrLong {
			t.Errorf("ApplyMutation = %s, %d", told(got), code)
		}
	}
}

func TestSameStores(t *testing.T) {
	for i, a := range someStores() {
		for j, b := range someStores() {
			if same, code := impl.SameStore(a, b); same != (i == j) || code != impl.OK {
				t.Errorf("SameStore of %s, %s = %t, %d", told(a), told(b), same, code)
			}
		}
	}
	for k, change := range []func(b *impl.Box){
		func(b *impl.Box) { b.Name = "other" }, func(b *impl.Box) { b.Mails[0].Flags++ }, func(b *impl.Box) { b.Mails[2].Text += "x" }, func(b *impl.Box) { b.Mails[1].Uid-- }, func(b *impl.Box) { b.Mails[2].Uid++ },
		func(b *impl.Box) { b.Mails = b.Mails[:2] }, func(b *impl.Box) { b.Mails = b.Mails[1:] }, func(b *impl.Box) { b.Mails = nil }, func(b *impl.Box) { b.Mails = append(b.Mails, impl.Stored{Uid: 5}) },
		func(b *impl.Box) { b.Keys[0] = "other" }, func(b *impl.Box) { b.Keys[4] += "x" }, func(b *impl.Box) { b.Keys[0], b.Keys[1] = b.Keys[1], b.Keys[0] },
		func(b *impl.Box) { b.Next, b.Keys = b.Next+1, append(b.Keys, "more") }, func(b *impl.Box) { b.Next, b.Keys = b.Next-1, b.Keys[:4] },
	} {
		for at := range 3 {
			a := []impl.Box{plainBox("a", 1), plainBox("b", 2), plainBox("c", 3)}
			b := []impl.Box{plainBox("a", 1), plainBox("b", 2), plainBox("c", 3)}
			if same, code := impl.SameStore(a, b); !same || code != impl.OK {
				t.Errorf("SameStore of the same = %t, %d", same, code)
			}
			change(&b[at])
			for _, lists := range [][2][]impl.Box{{a, b}, {b, a}} {
				if same, code := impl.SameStore(lists[0], lists[1]); same || code != impl.OK {
					t.Errorf("change %d of box %d: SameStore = %t, %d", k, at, same, code)
				}
			}
		}
	}
}

func TestCountedFlags(t *testing.T) {
	b := boxOf("a", 1, 30, upTo(1, 30)...)
	for flag, want := range map[int]int{1: 15, 2: 15, 4: 15, 8: 15, 16: 15, 3: 7, 24: 7, 28: 3, 30: 1, 15: 1, 31: 0} {
		if got, code := impl.CountFlag(b, flag); got != want || code != impl.OK {
			t.Errorf("CountFlag of %d = %d, %d, not %d", flag, got, code, want)
		}
	}
	for flags := range 32 {
		b := boxOf("a", 1, 5, 2)
		b.Mails[0].Flags = flags
		checkBox(t, b)
	}
}

func TestMutationsInTheirOrder(t *testing.T) {
	var boxes []impl.Box
	step := func(m impl.Mutation, code int) { t.Helper(); boxes = checkDone(t, boxes, m, code) }
	ask := func(want ...impl.Box) {
		t.Helper()
		if !sameAnswer(boxes, want) {
			t.Errorf("the boxes are %s, not %s", told(boxes), told(want))
		}
	}
	step(added("news", "a"), impl.ErrNone)
	step(flagged("news", 1, impl.MoSet, 1), impl.ErrNone)
	step(expunged("news"), impl.ErrNone)
	step(madeBox("news"), impl.OK)
	ask(impl.Box{Name: "news", Valid: 1, Next: 1})
	step(madeBox("news"), impl.ErrTwice)
	step(flagged("news", 1, impl.MoSet, 1), impl.ErrUid)
	step(expunged("news"), impl.OK)
	step(madeBox("more"), impl.OK)
	step(added("news", "a", "b", "c"), impl.OK)
	step(added("more", "a"), impl.OK)
	ask(
		impl.Box{Name: "news", Valid: 1, Next: 4, Mails: []impl.Stored{{Uid: 1, Text: "text of a"}, {Uid: 2, Text: "text of b"}, {Uid: 3, Text: "text of c"}}, Keys: []string{"a", "b", "c"}},
		impl.Box{Name: "more", Valid: 2, Next: 2, Mails: []impl.Stored{{Uid: 1, Text: "text of a"}}, Keys: []string{"a"}},
	)
	step(flagged("news", 2, impl.MoSet, impl.FlSeen|impl.FlDeleted), impl.OK)
	step(flagged("news", 3, impl.MoAdd, impl.FlDeleted), impl.OK)
	step(flagged("news", 3, impl.MoLess, impl.FlDeleted), impl.OK)
	step(flagged("news", 3, impl.MoAdd, impl.FlDraft), impl.OK)
	step(flagged("more", 1, impl.MoSet, impl.FlDeleted), impl.OK)
	step(expunged("news"), impl.OK)
	ask(
		impl.Box{Name: "news", Valid: 1, Next: 4, Mails: []impl.Stored{{Uid: 1, Text: "text of a"}, {Uid: 3, Flags: 16, Text: "text of c"}}, Keys: []string{"a", "b", "c"}},
		impl.Box{Name: "more", Valid: 2, Next: 2, Mails: []impl.Stored{{Uid: 1, Flags: 8, Text: "text of a"}}, Keys: []string{"a"}},
	)
	step(flagged("news", 2, impl.MoSet, 0), impl.ErrUid)
	step(added("news", "b"), impl.ErrTwice)
	step(added("news", "d", "b"), impl.ErrTwice)
	step(flagged("news", 3, impl.MoSet, impl.FlDeleted), impl.OK)
	step(expunged("news"), impl.OK)
	step(added("news", "c"), impl.ErrTwice)
	step(added("news", "d"), impl.OK)
	step(expunged("more"), impl.OK)
	step(added("more", "a"), impl.ErrTwice)
	step(added("more", "b", "c"), impl.OK)
	ask(
		impl.Box{Name: "news", Valid: 1, Next: 5, Mails: []impl.Stored{{Uid: 1, Text: "text of a"}, {Uid: 4, Text: "text of d"}}, Keys: []string{"a", "b", "c", "d"}},
		impl.Box{Name: "more", Valid: 2, Next: 4, Mails: []impl.Stored{{Uid: 2, Text: "text of b"}, {Uid: 3, Text: "text of c"}}, Keys: []string{"a", "b", "c"}},
	)
	step(madeBox("third"), impl.OK)
	step(madeBox("fourth"), impl.OK)
	step(madeBox("fifth"), impl.ErrFull)
	step(madeBox("more"), impl.ErrTwice)
	step(added("fifth", "a"), impl.ErrNone)
}

// A history is what was told of each box, by its name: which uid had which text, which key went with which uid, and what went.
type history struct {
	texts map[string]string
	uids  map[string]int
	gone  map[string]bool
}

// look asks that boxes behind a step keep to all that was told ahead of it.
func (h history) look(t *testing.T, before, after []impl.Box) {
	t.Helper()
	for i, b := range before {
		if i >= len(after) || after[i].Name != b.Name || after[i].Next < b.Next || !slices.Equal(after[i].Keys[:len(b.Keys)], b.Keys) {
			t.Errorf("%s became %s", told(before), told(after))
			return
		}
	}
	for i, b := range after {
		there := map[int]bool{}
		for _, m := range b.Mails {
			at := fmt.Sprint(b.Name, " ", m.Uid)
			text, known := h.texts[at]
			if h.gone[at] || known && text != m.Text {
				t.Errorf("%s: %q was %q", at, m.Text, text)
			}
			if !known && i < len(before) && m.Uid < before[i].Next {
				t.Errorf("%s was given a second time, or late", at)
			}
			h.texts[at] = m.Text
			there[m.Uid] = true
		}
		for j, key := range b.Keys {
			if uid, known := h.uids[b.Name+" "+key]; known && uid != j+1 {
				t.Errorf("%s: the key %q of %d is that of %d", b.Name, key, uid, j+1)
			}
			h.uids[b.Name+" "+key] = j + 1
			if !there[j+1] {
				h.gone[fmt.Sprint(b.Name, " ", j+1)] = true
			}
		}
	}
}

// madeMutation is mostly a right one, of few keys, so that some of them come again.
func madeMutation(source *rand.Rand) impl.Mutation {
	name := oneOf(source, "a", "b", "news", "other", "fifth")
	switch source.Intn(8) {
	case 0:
		return madeBox(name)
	case 1:
		return expunged(name)
	case 2, 3, 4:
		return flagged(name, 1+source.Intn(20), 1+source.Intn(3), source.Intn(32))
	case 5:
		return impl.Mutation{Kind: source.Intn(6), Mode: source.Intn(5), Flags: source.Intn(40) - 1, Uid: source.Intn(5), Box: name}
	}
	m := impl.Mutation{Kind: impl.MuAdd, Box: name}
	for range 1 + source.Intn(4) {
		m.Items = append(m.Items, impl.Item{Key: fmt.Sprint("k", source.Intn(200)), Text: fmt.Sprint("t", source.Int())})
	}
	return m
}

func TestHistoriesOfBoxes(t *testing.T) {
	codes := map[int]int{}
	for seed := range int64(60) {
		source := rand.New(rand.NewSource(seed))
		h := history{map[string]string{}, map[string]int{}, map[string]bool{}}
		var boxes []impl.Box
		for range 300 {
			m := madeMutation(source)
			next, code := checkApply(t, boxes, m)
			codes[code]++
			if code == impl.ErrBad {
				continue
			}
			h.look(t, boxes, next)
			if !impl.StoreOK(next) || !rightStore(next) {
				t.Fatalf("%s are not right", told(next))
			}
			boxes = next
		}
		for _, b := range boxes {
			checkBox(t, b)
		}
	}
	for _, code := range []int{impl.OK, impl.ErrBad, impl.ErrNone, impl.ErrTwice, impl.ErrUid, impl.ErrFull} {
		if codes[code] < 10 {
			t.Errorf("the histories have the code %d only %d times", code, codes[code])
		}
	}
}

func TestEveryMutationOfEveryStore(t *testing.T) {
	for _, list := range someStores() {
		for _, name := range []string{"first", "full", "spent", "last", "none"} {
			for _, m := range someMutations(name) {
				checkApply(t, list, m)
			}
			for uid := range 65 {
				checkApply(t, list, flagged(name, uid, impl.MoSet, 8))
			}
		}
	}
}

// What was expunged stays away, whatever is added behind that, up to the last uid that a box gives.
func TestWhatWentStaysAway(t *testing.T) {
	boxes := []impl.Box{{Name: "a", Valid: 1, Next: 1}}
	for i := 1; i <= 60; i++ {
		key := fmt.Sprint("key", i)
		boxes = checkDone(t, boxes, added("a", key), impl.OK)
		if m, code := impl.StoredAt(boxes[0], i); m != (impl.Stored{Uid: i, Text: "text of " + key}) || code != impl.OK {
			t.Errorf("mail %d is %s, %d", i, told(m), code)
		}
		boxes = checkDone(t, boxes, flagged("a", i, impl.MoAdd, impl.FlDeleted), impl.OK)
		boxes = checkDone(t, boxes, expunged("a"), impl.OK)
		for j := 1; j <= i; j++ {
			checkDone(t, boxes, added("a", fmt.Sprint("key", j)), impl.ErrTwice)
			checkDone(t, boxes, flagged("a", j, impl.MoSet, 0), impl.ErrUid)
		}
		if len(boxes[0].Mails) != 0 || boxes[0].Next != i+1 || len(boxes[0].Keys) != i {
			t.Errorf("behind %d: %s", i, told(boxes))
		}
	}
	// An empty box that gave all its keys takes no more, and its name is not free again.
	checkDone(t, boxes, added("a", "new"), impl.ErrUid)
	checkDone(t, boxes, added("a", "new", "key1"), impl.ErrUid)
	checkDone(t, boxes, madeBox("a"), impl.ErrTwice)
	boxes = checkDone(t, boxes, madeBox("b"), impl.OK)
	checkDone(t, boxes, added("b", "key1"), impl.OK)
}

func TestExpungedMails(t *testing.T) {
	for flags := range 32 {
		for at := range 3 {
			list := []impl.Box{plainBox("a", 1), plainBox("b", 2)}
			for i := range list[0].Mails {
				list[0].Mails[i].Flags &^= impl.FlDeleted
			}
			list[0].Mails[at].Flags = flags
			list[1].Mails[at].Flags = flags
			got := checkDone(t, list, expunged("a"), impl.OK)
			left := 3
			if flags&8 != 0 {
				left = 2
			}
			if len(got[0].Mails) != left || !sameAnswer(got[1], list[1]) {
				t.Errorf("flags %d of mail %d: %s", flags, at, told(got))
			}
		}
	}
	list := []impl.Box{boxOf("a", 1, 30, upTo(1, 30)...)}
	got := checkDone(t, list, expunged("a"), impl.OK)
	if len(got[0].Mails) != 15 || got[0].Next != 31 || len(got[0].Keys) != 30 {
		t.Errorf("of 30 mails: %s", told(got))
	}
	if again := checkDone(t, got, expunged("a"), impl.OK); !sameAnswer(again, got) {
		t.Errorf("expunged twice: %s", told(again))
	}
}

func TestFlagsAsSets(t *testing.T) {
	for had := range 32 {
		for flags := range 32 {
			for mode, want := range []int{1: flags, 2: had | flags, 3: had &^ flags} {
				if mode == 0 {
					continue
				}
				list := []impl.Box{plainBox("a", 1)}
				list[0].Mails[1].Flags = had
				got := checkDone(t, list, flagged("a", 3, mode, flags), impl.OK)
				if m := got[0].Mails[1]; m != (impl.Stored{Uid: 3, Flags: want, Text: "mail 3"}) {
					t.Errorf("%d, mode %d of %d: %s", had, mode, flags, told(m))
				}
				if got[0].Mails[0] != list[0].Mails[0] || got[0].Mails[2] != list[0].Mails[2] {
					t.Errorf("%d, mode %d of %d changed another mail: %s", had, mode, flags, told(got))
				}
			}
		}
	}
	full := []impl.Box{boxOf("a", 1, 60, upTo(31, 60)...)}
	for uid := 1; uid <= 1000; uid++ {
		code := impl.ErrUid
		if uid > 30 && uid <= 60 {
			code = impl.OK
		}
		if uid < 70 || uid%100 == 0 {
			checkDone(t, full, flagged("a", uid, impl.MoSet, 31), code)
		}
	}
}

// Of several items the last one is a fault: the boxes are as they were.
func TestWholeOrNotAtAll(t *testing.T) {
	for n := range 20 {
		keys := keysOf(40)[20 : 20+n]
		list := []impl.Box{plainBox("other", 1), plainBox("a", 2)}
		checkDone(t, list, added("a", append(slices.Clone(keys), "key 2")...), impl.ErrTwice)
		checkDone(t, list, added("a", append(slices.Clone(keys), "last")...), impl.OK)
		if n > 0 {
			checkDone(t, list, added("a", append(slices.Clone(keys), keys[0])...), impl.ErrTwice)
			checkDone(t, list, added("a", append(slices.Clone(keys), keys[n-1])...), impl.ErrTwice)
		}
		// Room for all but the last one: of mails, of keys, and of both.
		mails := boxOf("a", 1, 30-n, upTo(1, 30-n)...)
		checkDone(t, []impl.Box{mails}, added("a", append(wholeKeys(n), "last")...), impl.ErrFull)
		spent := boxOf("a", 1, 60-n, 1, 2)
		checkDone(t, []impl.Box{spent}, added("a", append(wholeKeys(n), "last")...), impl.ErrUid)
		both := boxOf("a", 1, 60-n, upTo(31-n, 60-2*n)...)
		checkDone(t, []impl.Box{both}, added("a", append(wholeKeys(n), "last")...), impl.ErrUid)
		if n > 0 {
			checkDone(t, []impl.Box{mails}, added("a", wholeKeys(n)...), impl.OK)
			checkDone(t, []impl.Box{spent}, added("a", wholeKeys(n)...), impl.OK)
			checkDone(t, []impl.Box{both}, added("a", wholeKeys(n)...), impl.OK)
		}
	}
}

// wholeKeys is so many keys that no other box of these tests has.
func wholeKeys(n int) []string {
	list := keysOf(n)
	for i := range list {
		list[i] = "whole " + list[i]
	}
	return list
}

// Of two faults the first that is named counts, item by item.
func TestFaultsOfItems(t *testing.T) {
	full := []impl.Box{boxOf("a", 1, 30, upTo(1, 30)...)}
	spent := []impl.Box{boxOf("a", 1, 60)}
	both := []impl.Box{boxOf("a", 1, 60, upTo(31, 60)...)}
	nearly := []impl.Box{boxOf("a", 1, 29, upTo(1, 29)...)}
	for _, list := range [][]impl.Box{full, spent, both} {
		checkDone(t, list, added("a", "key 1"), impl.ErrTwice)
		checkDone(t, list, added("a", "key 30", "new"), impl.ErrTwice)
	}
	checkDone(t, full, added("a", "new"), impl.ErrFull)
	checkDone(t, full, added("a", "new", "key 1"), impl.ErrFull)
	checkDone(t, full, added("a", "new", "new"), impl.ErrFull)
	checkDone(t, spent, added("a", "new"), impl.ErrUid)
	checkDone(t, spent, added("a", "new", "key 1"), impl.ErrUid)
	checkDone(t, both, added("a", "new"), impl.ErrUid)
	checkDone(t, nearly, added("a", "new"), impl.OK)
	checkDone(t, nearly, added("a", "new", "more"), impl.ErrFull)
	checkDone(t, nearly, added("a", "new", "new"), impl.ErrTwice)
	checkDone(t, nearly, added("a", "new", "more", "new"), impl.ErrFull)
	// With the other codes than ErrBad: a box that is not there, and one that is, of four.
	four := someStores()[7]
	checkDone(t, four, madeBox("last"), impl.ErrTwice)
	checkDone(t, four, madeBox("fifth"), impl.ErrFull)
	checkDone(t, four, added("fifth", "key 1", "key 1"), impl.ErrNone)
	checkDone(t, four, flagged("fifth", 1000, 1, 1), impl.ErrNone)
}

func TestItemsOfAnyBytes(t *testing.T) {
	list := []impl.Box{{Name: "a", Valid: 1, Next: 1}}
	m := impl.Mutation{Kind: impl.MuAdd, Box: "a"}
	for _, x := range []impl.Item{{Key: "\x00"}, {Key: "\xff\xfe", Text: "\x00\x80"}, {Key: "A"}, {Key: "a", Text: "\r\n"}, {Key: " a", Text: strings.Repeat("x", 4000)}, {Key: strings.Repeat("k", 200)}, {Key: strings.Repeat("k", 199)}, {Key: "\u00e4"}, {Key: "a\u0308"}} {
		m.Items = append(m.Items, x)
	}
	got := checkDone(t, list, m, impl.OK)
	for i, x := range m.Items {
		if got[0].Keys[i] != x.Key || got[0].Mails[i] != (impl.Stored{Uid: i + 1, Text: x.Text}) {
			t.Errorf("item %d became %s, %s", i, told(got[0].Keys[i]), told(got[0].Mails[i]))
		}
		checkDone(t, got, impl.Mutation{Kind: impl.MuAdd, Box: "a", Items: m.Items[i : i+1]}, impl.ErrTwice)
	}
	checkBytes(t, m)
}

// rightMutations is right ones, at all their edges.
func rightMutations() []impl.Mutation {
	var list []impl.Mutation
	for _, name := range []string{"a", "news", "_9", strings.Repeat("n", 40)} {
		list = append(list, madeBox(name), expunged(name), added(name, "k"), added(name, "k", "k"), added(name, keysOf(19)...), added(name, keysOf(20)...), flagged(name, 1, 1, 0))
	}
	for _, uid := range []int{1, 2, 255, 256, 257, 258, 511, 512, 999, 1000} {
		for mode := 1; mode <= 3; mode++ {
			list = append(list, flagged("a", uid, mode, uid%32))
		}
	}
	for flags := range 32 {
		list = append(list, flagged("a", 7, 1+flags%3, flags))
	}
	for _, n := range []int{1, 2, 127, 128, 199, 200} {
		for _, size := range []int{0, 1, 255, 256, 257, 3999, 4000} {
			x := impl.Item{Key: string(madeBytes(n, n)), Text: string(madeBytes(size, size))}
			list = append(list, impl.Mutation{Kind: impl.MuAdd, Box: "a", Items: []impl.Item{x}}, impl.Mutation{Kind: impl.MuAdd, Box: "a", Items: []impl.Item{{Key: "\x00"}, x, {Key: "k", Text: "\xff"}}})
		}
	}
	return list
}

func TestRightMutations(t *testing.T) {
	for _, m := range rightMutations() {
		if !impl.MutationOK(m) || !rightMutation(m) {
			t.Errorf("%s is not right", told(m))
		}
		checkBytes(t, m)
		m.Items = append([]impl.Item{}, m.Items...)
		checkBytes(t, m)
	}
	x := impl.Item{Key: "k", Text: "t"}
	for m, want := range map[*impl.Mutation]string{
		{Kind: 1, Box: "a"}:                                           "\x01\x00\x00\x00\x01\x00\x00a",
		{Kind: 4, Box: "news"}:                                        "\x04\x00\x00\x00\x04\x00\x00news",
		{Kind: 3, Box: "b", Uid: 1000, Mode: 2, Flags: 17}:            "\x03\x02\x11\x00\x01\x03\xe8b",
		{Kind: 2, Box: "b", Items: []impl.Item{x, {Key: "\xff\x00"}}}: "\x02\x00\x00\x02\x01\x00\x00b\x00\x01\x00\x01kt\x00\x02\x00\x00\xff\x00",
		{Kind: 2, Box: "b", Items: []impl.Item{{Key: strings.Repeat("k", 200), Text: fullText[:4000]}}}: "\x02\x00\x00\x01\x01\x00\x00b\x00\xc8\x0f\xa0" + strings.Repeat("k", 200) + fullText[:4000],
	} {
		if b, code := impl.MutationBytes(*m); string(b) != want || code != impl.OK {
			t.Errorf("MutationBytes of %s = %q, %d, not %q", told(*m), brief(string(b)), code, brief(want))
		}
	}
}

// wrongMutations is ones that are wrong in one way each.
func wrongMutations() []impl.Mutation {
	list := []impl.Mutation{{}, {Box: "a"}, {Kind: 2, Box: "a"}, {Kind: 2, Box: "a", Items: []impl.Item{}}, {Kind: 3, Box: "a"}}
	x := []impl.Item{{Key: "k", Text: "t"}}
	for _, kind := range []int{0, 5, 6, -1, 255, 256, 257, 258, 1 << 32, math.MaxInt, math.MinInt} {
		list = append(list, impl.Mutation{Kind: kind, Box: "a"}, impl.Mutation{Kind: kind, Box: "a", Items: x}, impl.Mutation{Kind: kind, Box: "a", Uid: 1, Mode: 1, Flags: 1})
	}
	for _, m := range []impl.Mutation{madeBox("a"), expunged("a"), added("a", "k"), flagged("a", 1, 1, 1)} {
		for _, name := range []string{"", "9", "a b", "\x00", "\u00e4", "a\n", strings.Repeat("n", 41), strings.Repeat("n", 256), longText} {
			m.Box = name
			list = append(list, m)
		}
		m.Box = "a"
		for _, more := range []int{1, -1, 2, 3, 256, 1 << 32, math.MaxInt, math.MinInt} {
			uid, mode, flags := m, m, m
			uid.Uid, mode.Mode, flags.Flags = more, more, more
			if m.Kind != impl.MuFlags {
				list = append(list, uid, mode, flags)
			}
		}
		if m.Kind != impl.MuAdd {
			m.Items = x
			list = append(list, m)
		}
	}
	for _, uid := range []int{0, -1, 1001, 1002, 65536, 65537, 1 << 32, math.MaxInt, math.MinInt} {
		list = append(list, flagged("a", uid, 1, 1))
	}
	for _, mode := range []int{0, 4, 5, -1, 256, 257, 1<<32 + 1, math.MaxInt, math.MinInt} {
		list = append(list, flagged("a", 1, mode, 1))
	}
	for _, flags := range []int{-1, 32, 33, 255, 256, 257, 1 << 32, math.MaxInt, math.MinInt} {
		list = append(list, flagged("a", 1, 2, flags))
	}
	for _, n := range []int{21, 22, 255, 256, 257, 5000} {
		list = append(list, added("a", keysOf(n)...), impl.Mutation{Kind: 2, Box: "a", Items: make([]impl.Item, n)})
	}
	for i := range 3 {
		for _, x := range []impl.Item{{}, {Text: "t"}, {Key: strings.Repeat("k", 201)}, {Key: longText}, {Key: "k", Text: strings.Repeat("x", 4001)}, {Key: "k", Text: endlessText}} {
			m := added("a", "1", "2", "3")
			m.Items[i] = x
			list = append(list, m)
		}
	}
	return list
}

func TestWrongMutations(t *testing.T) {
	for _, m := range wrongMutations() {
		if impl.MutationOK(m) || rightMutation(m) {
			t.Errorf("%s is right", told(m))
		}
		if b, code := impl.MutationBytes(m); len(b) != 0 || code != impl.ErrBad {
			t.Errorf("MutationBytes of %s = %q, %d", told(m), brief(string(b)), code)
		}
		// A box that is not there, or a key that is, counts only for a right one.
		for _, list := range [][]impl.Box{nil, {plainBox("a", 1)}, {plainBox("b", 1)}, someStores()[7], {{}}} {
			if got, code := impl.ApplyMutation(list, m); got != nil || code != impl.ErrBad {
				t.Errorf("ApplyMutation of %s = %s, %d", told(m), told(got), code)
			}
		}
		if len(m.Items) < 256 && len(m.Box) < 256 {
			// The bytes of numbers that are too great may be those of a right one.
			checkReadMutation(t, writtenMutation(m))
		}
	}
}

// mutationOfBytes is a right mutation of so many bytes.
func mutationOfBytes(n int) impl.Mutation {
	m := impl.Mutation{Kind: impl.MuAdd, Box: "a"}
	left := n - 8
	for i := 0; left > 0; i++ {
		size := min(left-5, 4000)
		if rest := left - 5 - size; rest > 0 && rest < 5 {
			size -= 5
		}
		m.Items = append(m.Items, impl.Item{Key: string(rune('a' + i)), Text: string(madeBytes(size, i))})
		left -= 5 + size
	}
	return m
}

func TestLengthsOfMutations(t *testing.T) {
	for _, n := range []int{13, 14, 4013, 4014, 4020, 8018, 19990, 19998, 19999, 20000} {
		m := mutationOfBytes(n)
		b, code := impl.MutationBytes(m)
		if len(b) != n || code != impl.OK {
			t.Errorf("a mutation of %d bytes has %d, %d", n, len(b), code)
		}
		checkBytes(t, m)
	}
	for _, n := range []int{20001, 20002, 20003, 24000, 65535, 65536, 65537, 80000} {
		m := mutationOfBytes(n)
		if len(writtenMutation(m)) != n || !impl.MutationOK(m) {
			t.Errorf("no right mutation of %d bytes: %d", n, len(writtenMutation(m)))
		}
		if b, code := impl.MutationBytes(m); len(b) != 0 || code != impl.ErrFull {
			t.Errorf("MutationBytes of %d bytes = %d, %d", n, len(b), code)
		}
		want := impl.ErrForm
		if n > impl.MaxText {
			want = impl.ErrLong
		}
		if got, code := impl.ReadMutation(writtenMutation(m)); code != want || !sameAnswer(got, impl.Mutation{}) {
			t.Errorf("ReadMutation of %d bytes = %s, %d", n, told(got), code)
		}
		// It is done nevertheless: how many bytes it has counts for a log alone.
		checkDone(t, []impl.Box{boxOf("a", 1, 0)}, m, impl.OK)
	}
	for _, n := range []int{20001, impl.MaxText, impl.MaxText + 1, 3 * impl.MaxText} {
		for _, c := range []byte{0, 1, 255} {
			checkReadMutation(t, bytes.Repeat([]byte{c}, n))
		}
	}
}

func TestBytesOfNoMutation(t *testing.T) {
	for _, b := range []string{"", "\x01", "\x01\x00\x00\x00", "\x01\x00\x00\x00\x00\x00\x00", "\x01\x00\x00\x00\x01\x00\x00", "\x01\x00\x00\x00\x019\x00\x00", "\x00\x00\x00\x00\x01\x00\x00a", "\x05\x00\x00\x00\x01\x00\x00a", "\x02\x00\x00\x00\x01\x00\x00a", "\x02\x00\x00\x01\x01\x00\x00a", "\x02\x00\x00\x01\x01\x00\x00a\x00\x00\x00\x00", "\x02\x00\x00\x01\x01\x00\x00a\x00\x01\x00\x00", "\x02\x00\x00\xff\x01\x00\x00a\x00\x01\x00\x00k", "\x02\x00\x00\x01\x01\x00\x00a\xff\xff\xff\xffk", "\x02\x00\x00\x01\x01\x00\x00a\x00\xc9\x00\x00" + strings.Repeat("k", 201), "\x02\x00\x00\x01\x01\x00\x00a\x00\x01\x0f\xa1k" + strings.Repeat("x", 4001), "\x03\x00\x00\x00\x01\x00\x01a", "\x03\x04\x00\x00\x01\x00\x01a", "\x03\x01\x20\x00\x01\x00\x01a", "\x03\x01\x00\x00\x01\x00\x00a", "\x03\x01\x00\x00\x01\x03\xe9a", "\x03\x01\x00\x01\x01\x00\x01a\x00\x01\x00\x00k", "\x01\x00\x00\x00\x29\x00\x00" + strings.Repeat("n", 41), "\xff\xff\xff\xff\xff\xff\xff"} {
		if m, code := checkReadMutation(t, []byte(b)); code != impl.ErrForm || !sameAnswer(m, impl.Mutation{}) {
			t.Errorf("ReadMutation of %q = %s, %d", b, told(m), code)
		}
	}
}

// One byte is left out at every place, one more is at the end or at every place, one is changed: if it is a mutation's then, it is just that one's.
func TestChangedBytesOfMutations(t *testing.T) {
	twice := added("news", "a", "bc")
	twice.Items[1].Text = "\x00\x01\x00\x00"
	for _, m := range []impl.Mutation{madeBox("a"), madeBox("news"), expunged("news"), flagged("news", 258, 3, 31), flagged("a", 1, 1, 0), added("a", "k"), twice, {Kind: 2, Box: "a", Items: []impl.Item{{Key: "k"}, {Key: "l"}, {Key: "\x00\x01\x00"}}}} {
		b := writtenMutation(m)
		for i := range b {
			if _, code := checkReadMutation(t, slices.Delete(slices.Clone(b), i, i+1)); code != impl.ErrForm {
				t.Errorf("%q without byte %d has the code %d", b, i, code)
			}
			if _, code := checkReadMutation(t, b[:i]); code != impl.ErrForm {
				t.Errorf("the first %d of %q have the code %d", i, b, code)
			}
			for c := range 256 {
				other := slices.Clone(b)
				other[i] = byte(c)
				got, code := checkReadMutation(t, other)
				if code == impl.OK && sameAnswer(got, m) != (byte(c) == b[i]) {
					t.Errorf("%q with %d at %d is %s", b, c, i, told(got))
				}
			}
		}
		for c := range 256 {
			for i := range len(b) + 1 {
				got, code := checkReadMutation(t, slices.Insert(slices.Clone(b), i, byte(c)))
				if i == len(b) && code != impl.ErrForm || code == impl.OK && sameAnswer(got, m) {
					t.Errorf("%q with %d more at %d is %s, %d", b, c, i, told(got), code)
				}
			}
		}
	}
}

func TestMadeBytesOfMutations(t *testing.T) {
	source := rand.New(rand.NewSource(9))
	right := 0
	for range 20000 {
		b := writtenMutation(madeMutation(source))
		for range source.Intn(3) {
			switch i := source.Intn(len(b)); source.Intn(3) {
			case 0:
				b[i] = byte(source.Intn(256))
			case 1:
				b[i] ^= 1 << source.Intn(8)
			default:
				b = append(b[:i:i], b[min(i+source.Intn(3), len(b)):]...)
			}
			if len(b) == 0 {
				break
			}
		}
		if _, code := checkReadMutation(t, b); code == impl.OK {
			right++
		}
	}
	if right < 1000 || right > 19000 {
		t.Errorf("%d of 20000 are right", right)
	}
}
