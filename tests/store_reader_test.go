package tests

import (
	"bytes"
	"encoding/binary"
	"math"
	"reflect"
	"slices"
	"testing"

	"loop.example/g00268/impl"
)

// rightBox is BoxOK once more, by sets of uids and of keys.
func rightBox(b impl.Box) bool {
	if !boxPattern.MatchString(b.Name) || b.Valid < 1 || b.Valid > 1000000 || b.Next < 1 || b.Next > 1001 || len(b.Mails) > 30 || len(b.Keys) > 60 || len(b.Keys)+1 != b.Next {
		return false
	}
	uids := make([]int, 0, 30)
	for _, m := range b.Mails {
		if m.Flags|31 != 31 || len(m.Text) > 4000 || m.Uid < 1 || m.Uid > b.Next-1 {
			return false
		}
		uids = append(uids, m.Uid)
	}
	keys := slices.Clone(b.Keys)
	slices.Sort(keys)
	for _, key := range keys {
		if key == "" || len(key) > 200 {
			return false
		}
	}
	return slices.IsSorted(uids) && len(slices.Compact(uids)) == len(b.Mails) && len(slices.Compact(keys)) == len(b.Keys)
}

// rightStore is StoreOK once more.
func rightStore(list []impl.Box) bool {
	names := map[string]bool{}
	for i, b := range list {
		if i == 4 || !rightBox(b) || b.Valid-1 != i {
			return false
		}
		names[b.Name] = true
	}
	return len(names) == len(list)
}

// rightMutation is MutationOK once more: what is left when the fields of its kind are taken away is nothing.
func rightMutation(m impl.Mutation) bool {
	for i, x := range m.Items {
		if i == 20 || x.Key == "" || len(x.Key) > 200 || len(x.Text) > 4000 {
			return false
		}
	}
	rest := m
	rest.Kind, rest.Box = 0, ""
	switch m.Kind {
	case 2:
		if len(m.Items) == 0 {
			return false
		}
		rest.Items = nil
	case 3:
		if m.Uid < 1 || m.Uid > 1000 || !slices.Contains([]int{1, 2, 3}, m.Mode) || m.Flags|31 != 31 {
			return false
		}
		rest.Uid, rest.Mode, rest.Flags = 0, 0, 0
	case 1, 4:
	default:
		return false
	}
	return boxPattern.MatchString(m.Box) && alike(reflect.ValueOf(rest), reflect.ValueOf(impl.Mutation{}))
}

// A ledger is a box with all that it ever was given, the uid being the place from 1: what went stays in it.
type ledger struct {
	name string
	all  []given
}

type given struct {
	key, text string
	flags     int
	gone      bool
}

func ledgerOf(b impl.Box) ledger {
	l := ledger{name: b.Name}
	for _, key := range b.Keys {
		l.all = append(l.all, given{key: key, gone: true})
	}
	for _, m := range b.Mails {
		l.all[m.Uid-1] = given{l.all[m.Uid-1].key, m.Text, m.Flags, false}
	}
	return l
}

// box is what a ledger's box has now, being at a place of the boxes.
func (l ledger) box(place int) impl.Box {
	b := impl.Box{Name: l.name, Valid: place, Next: len(l.all) + 1}
	for i, x := range l.all {
		b.Keys = append(b.Keys, x.key)
		if !x.gone {
			b.Mails = append(b.Mails, impl.Stored{Uid: i + 1, Flags: x.flags, Text: x.text})
		}
	}
	return b
}

// add puts one item behind all others.
func (l *ledger) add(x impl.Item) int {
	left := 0
	for _, y := range l.all {
		if y.key == x.Key {
			return impl.ErrTwice
		}
		if !y.gone {
			left++
		}
	}
	if len(l.all) == 60 {
		return impl.ErrUid
	}
	if left == 30 {
		return impl.ErrFull
	}
	l.all = append(l.all, given{key: x.Key, text: x.Text})
	return impl.OK
}

// setFlags goes over the five flags one by one.
func (l *ledger) setFlags(m impl.Mutation) int {
	if m.Uid > len(l.all) || l.all[m.Uid-1].gone {
		return impl.ErrUid
	}
	sum := 0
	for _, flag := range []int{1, 2, 4, 8, 16} {
		had, told := l.all[m.Uid-1].flags/flag%2 == 1, m.Flags/flag%2 == 1
		if m.Mode == 1 && told || m.Mode == 2 && (had || told) || m.Mode == 3 && had && !told {
			sum += flag
		}
	}
	l.all[m.Uid-1].flags = sum
	return impl.OK
}

func (l *ledger) expunge() {
	for i, x := range l.all {
		if x.flags/8%2 == 1 {
			l.all[i] = given{key: x.key, gone: true}
		}
	}
}

// do changes the ledgers, which are spoiled if there is a code.
func do(list []ledger, m impl.Mutation) ([]ledger, int) {
	at := slices.IndexFunc(list, func(l ledger) bool { return l.name == m.Box })
	switch {
	case m.Kind == 1 && at >= 0:
		return nil, impl.ErrTwice
	case m.Kind == 1 && len(list) == 4:
		return nil, impl.ErrFull
	case m.Kind == 1:
		return append(list, ledger{name: m.Box}), impl.OK
	case at < 0:
		return nil, impl.ErrNone
	case m.Kind == 3:
		return list, list[at].setFlags(m)
	case m.Kind == 4:
		list[at].expunge()
	}
	for _, x := range m.Items {
		if code := list[at].add(x); code != impl.OK {
			return nil, code
		}
	}
	return list, impl.OK
}

// mutatedBoxes is ApplyMutation once more, over ledgers.
func mutatedBoxes(list []impl.Box, m impl.Mutation) ([]impl.Box, int) {
	if len(list) > impl.MaxList {
		return nil, impl.ErrLong
	}
	if !rightStore(list) || !rightMutation(m) {
		return nil, impl.ErrBad
	}
	var ledgers []ledger
	for _, b := range list {
		ledgers = append(ledgers, ledgerOf(b))
	}
	ledgers, code := do(ledgers, m)
	if code != impl.OK {
		return list, code
	}
	var next []impl.Box
	for i, l := range ledgers {
		next = append(next, l.box(i+1))
	}
	return next, impl.OK
}

// A mutationHead is what stands ahead of a mutation's texts, as it is read and written by the library.
type mutationHead struct {
	Kind, Mode, Flags, Items, Box uint8
	Uid                           uint16
}

// writtenMutation is a mutation's bytes, however many they are.
func writtenMutation(m impl.Mutation) []byte {
	var b bytes.Buffer
	binary.Write(&b, binary.BigEndian, mutationHead{uint8(m.Kind), uint8(m.Mode), uint8(m.Flags), uint8(len(m.Items)), uint8(len(m.Box)), uint16(m.Uid)})
	b.WriteString(m.Box)
	for _, x := range m.Items {
		binary.Write(&b, binary.BigEndian, [2]uint16{uint16(len(x.Key)), uint16(len(x.Text))})
		b.WriteString(x.Key + x.Text)
	}
	return b.Bytes()
}

// mutationOf is ReadMutation once more.
func mutationOf(data []byte) (impl.Mutation, int) {
	if len(data) > impl.MaxText {
		return impl.Mutation{}, impl.ErrLong
	}
	var head mutationHead
	from := bytes.NewBuffer(slices.Clone(data))
	err := binary.Read(from, binary.BigEndian, &head)
	m := impl.Mutation{Kind: int(head.Kind), Mode: int(head.Mode), Flags: int(head.Flags), Uid: int(head.Uid), Box: string(from.Next(int(head.Box)))}
	for i := 0; i < int(head.Items) && err == nil; i++ {
		var sizes [2]uint16
		err = binary.Read(from, binary.BigEndian, &sizes)
		m.Items = append(m.Items, impl.Item{Key: string(from.Next(int(sizes[0]))), Text: string(from.Next(int(sizes[1])))})
	}
	// What was read of too few bytes has other bytes than these.
	if err != nil || len(data) > 20000 || !rightMutation(m) || !bytes.Equal(writtenMutation(m), data) {
		return impl.Mutation{}, impl.ErrForm
	}
	return m, impl.OK
}

func sameAnswer(a, b any) bool { return alike(reflect.ValueOf(a), reflect.ValueOf(b)) }

// checkApply holds a mutation of boxes against the ledgers, and answers what the program does.
func checkApply(t *testing.T, list []impl.Box, m impl.Mutation) ([]impl.Box, int) {
	t.Helper()
	want, wantCode := mutatedBoxes(list, m)
	got, code := impl.ApplyMutation(list, m)
	if code != wantCode || !sameAnswer(got, want) {
		t.Errorf("ApplyMutation of %s, %s = %s, %d, not %s, %d", told(list), told(m), told(got), code, told(want), wantCode)
	}
	return got, code
}

// checkDone asks for one code, and for boxes that are right behind it, the same ones unless it is OK.
func checkDone(t *testing.T, list []impl.Box, m impl.Mutation, wantCode int) []impl.Box {
	t.Helper()
	got, code := checkApply(t, list, m)
	if code != wantCode || !impl.StoreOK(got) || code != impl.OK && !sameAnswer(got, list) {
		t.Errorf("ApplyMutation of %s, %s = %s, %d, not %d", told(list), told(m), told(got), code, wantCode)
	}
	return got
}

// checkBytes holds a mutation's bytes against the library's, and reads them.
func checkBytes(t *testing.T, m impl.Mutation) {
	t.Helper()
	var want []byte
	wantCode := impl.ErrBad
	if rightMutation(m) {
		if want, wantCode = writtenMutation(m), impl.OK; len(want) > 20000 {
			want, wantCode = nil, impl.ErrFull
		}
	}
	if impl.MutationOK(m) != rightMutation(m) {
		t.Errorf("MutationOK of %s = %t", told(m), impl.MutationOK(m))
	}
	b, code := impl.MutationBytes(m)
	if !bytes.Equal(b, want) || code != wantCode {
		t.Errorf("MutationBytes of %s = %q, %d, not %q, %d", told(m), brief(string(b)), code, brief(string(want)), wantCode)
	}
	if wantCode == impl.OK {
		back, code := checkReadMutation(t, b)
		if code != impl.OK || !sameAnswer(back, m) {
			t.Errorf("ReadMutation of the bytes of %s = %s, %d", told(m), told(back), code)
		}
	}
}

// checkReadMutation holds a reading against the library's, and writes again what was read.
func checkReadMutation(t *testing.T, b []byte) (impl.Mutation, int) {
	t.Helper()
	want, wantCode := mutationOf(b)
	m, code := impl.ReadMutation(b)
	if code != wantCode || !sameAnswer(m, want) {
		t.Errorf("ReadMutation of %q = %s, %d, not %s, %d", brief(string(b)), told(m), code, told(want), wantCode)
	}
	if code == impl.OK {
		again, code := impl.MutationBytes(m)
		if !bytes.Equal(again, b) || code != impl.OK {
			t.Errorf("MutationBytes of what %q tells = %q, %d", brief(string(b)), brief(string(again)), code)
		}
	}
	return m, code
}

// checkBox asks all of a right box.
func checkBox(t *testing.T, b impl.Box) {
	t.Helper()
	if !impl.BoxOK(b) || !rightBox(b) {
		t.Errorf("%s is not right", told(b))
	}
	uids := map[int]impl.Stored{}
	for _, m := range b.Mails {
		uids[m.Uid] = m
	}
	for _, uid := range append(uidsAround(b), math.MinInt, -1, 1000, 1001, math.MaxInt) {
		want, there := uids[uid]
		wantCode := impl.OK
		if !there {
			wantCode = impl.ErrNone
		}
		if got, code := impl.StoredAt(b, uid); got != want || code != wantCode {
			t.Errorf("StoredAt of %s, %d = %s, %d, not %s, %d", told(b), uid, told(got), code, told(want), wantCode)
		}
	}
	for flag := 1; flag < 32; flag++ {
		want := 0
		for _, m := range b.Mails {
			if m.Flags|flag == m.Flags {
				want++
			}
		}
		if got, code := impl.CountFlag(b, flag); got != want || code != impl.OK {
			t.Errorf("CountFlag of %s, %d = %d, %d, not %d", told(b), flag, got, code, want)
		}
	}
	for _, flag := range wrongFlags() {
		if got, code := impl.CountFlag(b, flag); got != 0 || code != impl.ErrFlag {
			t.Errorf("CountFlag of %s, %d = %d, %d", told(b), flag, got, code)
		}
	}
}

// uidsAround is all uids that a box gave, and the two beside them.
func uidsAround(b impl.Box) []int {
	var list []int
	for uid := range b.Next + 1 {
		list = append(list, uid)
	}
	return list
}

// wrongFlags is what no flag that is asked for may be.
func wrongFlags() []int {
	return []int{0, -1, -8, -31, 32, 33, 63, 64, 256, 1 << 32, 1<<32 + 1, math.MaxInt, math.MinInt, math.MinInt + 1}
}

// checkWrongBox asks that no call takes a box that is not right.
func checkWrongBox(t *testing.T, b impl.Box) {
	t.Helper()
	if impl.BoxOK(b) || rightBox(b) {
		t.Errorf("%s is right", told(b))
	}
	for _, uid := range []int{math.MinInt, 0, 1, 2, 1000, 1001} {
		if got, code := impl.StoredAt(b, uid); got != (impl.Stored{}) || code != impl.ErrBad {
			t.Errorf("StoredAt of %s, %d = %s, %d", told(b), uid, told(got), code)
		}
	}
	for _, flag := range append(wrongFlags(), 1, 8, 31) {
		if got, code := impl.CountFlag(b, flag); got != 0 || code != impl.ErrBad {
			t.Errorf("CountFlag of %s, %d = %d, %d", told(b), flag, got, code)
		}
	}
	checkWrongStore(t, []impl.Box{b})
	second := b
	second.Valid = 2
	if b.Valid == 1 {
		checkWrongStore(t, []impl.Box{plainBox("first", 1), second})
	}
}

// checkWrongStore asks that no call takes boxes that are not right, whatever the other arguments are.
func checkWrongStore(t *testing.T, list []impl.Box) {
	t.Helper()
	if impl.StoreOK(list) || rightStore(list) {
		t.Errorf("%s are right", told(list))
	}
	wantCode, name := impl.ErrBad, "none"
	if len(list) > impl.MaxList {
		wantCode = impl.ErrLong
	}
	if len(list) > 0 {
		name = list[0].Name
	}
	for _, x := range []string{name, "", "none", "9", "first"} {
		want := wantCode
		if len(x) > impl.MaxText {
			want = impl.ErrLong
		}
		if got, code := impl.BoxAt(list, x); !sameAnswer(got, impl.Box{}) || code != want {
			t.Errorf("BoxAt of %s, %q = %s, %d", told(list), brief(x), told(got), code)
		}
	}
	for _, other := range [][]impl.Box{nil, list, {plainBox("a", 1)}} {
		if same, code := impl.SameStore(list, other); same || code != wantCode {
			t.Errorf("SameStore of %s, %s = %t, %d", told(list), told(other), same, code)
		}
		if same, code := impl.SameStore(other, list); same || code != wantCode {
			t.Errorf("SameStore of %s, %s = %t, %d", told(other), told(list), same, code)
		}
	}
	for _, m := range append(someMutations("first"), someMutations("none")...) {
		if got, code := checkApply(t, list, m); len(got) != 0 || code != wantCode {
			t.Errorf("ApplyMutation of %s, %s = %s, %d", told(list), told(m), told(got), code)
		}
	}
}
