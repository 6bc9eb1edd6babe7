package tests

import (
	"math"
	"slices"
	"testing"

	"loop.example/g00268/impl"
)

// replayOf is ReplayLog once more, over the other readers of logs and of mutations, and over ledgers.
func replayOf(l impl.Log) ([]impl.Box, int, int) {
	if !rightLog(l) {
		return nil, 0, impl.ErrBad
	}
	records, _, behind := readLog(l.Data)
	var boxes []impl.Box
	for _, record := range records {
		m, code := mutationOf([]byte(record))
		if code == impl.OK {
			boxes, code = mutatedBoxes(boxes, m)
		}
		if code != impl.OK {
			return nil, 0, impl.ErrForm
		}
	}
	if behind == impl.ErrSum {
		return nil, 0, impl.ErrSum
	}
	return boxes, len(records), impl.OK
}

// rightEngine is EngineOK once more.
func rightEngine(e impl.Engine) bool {
	boxes, count, code := replayOf(e.Log)
	if code != impl.OK || !rightStore(e.Boxes) || !sameAnswer(boxes, e.Boxes) {
		return false
	}
	records, _, _ := readLog(e.Log.Data)
	return count == len(records) && e.Log == sureLog(e.Log.Room, allWritten(records...))
}

// pollOf is PollMutation once more, over the other readers of feeds and mails.
func pollOf(list []impl.Box, box, feed string) (impl.Mutation, int) {
	switch {
	case len(list) > 4096 || len(box) > 65536 || len(feed) > 65536:
		return impl.Mutation{}, impl.ErrLong
	case !rightStore(list):
		return impl.Mutation{}, impl.ErrBad
	}
	at := slices.IndexFunc(list, func(b impl.Box) bool { return b.Name == box })
	if at < 0 {
		return impl.Mutation{}, impl.ErrNone
	}
	f, code := feedOf(feed)
	if code != impl.OK {
		return impl.Mutation{}, code
	}
	m := impl.Mutation{Kind: 2, Box: box}
	for i, e := range f.Entries {
		ahead := slices.ContainsFunc(f.Entries[:i], func(x impl.Entry) bool { return x.Id == e.Id })
		if ahead || slices.Contains(list[at].Keys, e.Id) {
			continue
		}
		mail := mailText(e, box)
		if len(mail) > 4000 {
			return impl.Mutation{}, impl.ErrRange
		}
		m.Items = append(m.Items, impl.Item{Key: e.Id, Text: mail})
	}
	return m, impl.OK
}

// commitOf is Commit once more.
func commitOf(e impl.Engine, m impl.Mutation) (impl.Engine, int) {
	if !rightEngine(e) || !rightMutation(m) {
		return impl.Engine{}, impl.ErrBad
	}
	boxes, code := mutatedBoxes(e.Boxes, m)
	if code != impl.OK {
		return e, code
	}
	data := e.Log.Data + written(string(writtenMutation(m)))
	if len(writtenMutation(m)) > 20000 || len(data) > e.Log.Room {
		return e, impl.ErrFull
	}
	return impl.Engine{Log: sureLog(e.Log.Room, data), Boxes: boxes}, impl.OK
}

// crashOf is CommitCrash once more: a record is there whole, or not at all.
func crashOf(e impl.Engine, m impl.Mutation, keep int) (impl.Engine, int) {
	next, code := commitOf(e, m)
	switch {
	case code == impl.ErrBad:
		return impl.Engine{}, impl.ErrBad
	case keep < len(next.Log.Data)-len(e.Log.Data):
		return e, impl.OK
	}
	return next, impl.OK
}

// polledOf is Poll once more.
func polledOf(e impl.Engine, box, feed string) (impl.Engine, int, int) {
	switch {
	case len(box) > 65536 || len(feed) > 65536:
		return e, 0, impl.ErrLong
	case !rightEngine(e):
		return impl.Engine{}, 0, impl.ErrBad
	}
	m, code := pollOf(e.Boxes, box, feed)
	if code != impl.OK || m.Items == nil {
		return e, 0, code
	}
	next, code := commitOf(e, m)
	if code != impl.OK {
		return e, 0, code
	}
	return next, len(m.Items), impl.OK
}

func checkReplay(t *testing.T, l impl.Log) ([]impl.Box, int, int) {
	t.Helper()
	want, wantCount, wantCode := replayOf(l)
	boxes, count, code := impl.ReplayLog(l)
	if !sameAnswer(boxes, want) || count != wantCount || code != wantCode {
		t.Errorf("ReplayLog of %s = %s, %d, %d, not %s, %d, %d", told(l), told(boxes), count, code, told(want), wantCount, wantCode)
	}
	return boxes, count, code
}

// checkReplayed asks for one answer of a log.
func checkReplayed(t *testing.T, l impl.Log, want []impl.Box, wantCount, wantCode int) {
	t.Helper()
	boxes, count, code := checkReplay(t, l)
	if !sameAnswer(boxes, want) || count != wantCount || code != wantCode {
		t.Errorf("ReplayLog of %s = %s, %d, %d, not %s, %d, %d", told(l), told(boxes), count, code, told(want), wantCount, wantCode)
	}
}

// checkEngine asks that an engine is right, that its boxes are those of its log, and that so many records are there.
func checkEngine(t *testing.T, e impl.Engine, count int) {
	t.Helper()
	if !impl.EngineOK(e) || !rightEngine(e) {
		t.Errorf("%s is not right", told(e))
	}
	checkReplayed(t, e.Log, e.Boxes, count, impl.OK)
	if records, size, code := impl.LogRecords(e.Log); len(records) != count || size != len(e.Log.Data) || e.Log.Sure != size || code != impl.OK {
		t.Errorf("LogRecords of %s = %d of them, %d, %d, not %d", told(e.Log), len(records), size, code, count)
	}
	if same, code := impl.SameStore(e.Boxes, e.Boxes); !same || code != impl.OK {
		t.Errorf("the boxes of %s are not right", told(e))
	}
}

// checkCommit holds a commit against the other one, and answers what the program does.
func checkCommit(t *testing.T, e impl.Engine, m impl.Mutation) (impl.Engine, int) {
	t.Helper()
	want, wantCode := commitOf(e, m)
	got, code := impl.Commit(e, m)
	if code != wantCode || !sameAnswer(got, want) {
		t.Errorf("Commit of %s, %s = %s, %d, not %s, %d", told(e), told(m), told(got), code, told(want), wantCode)
	}
	return got, code
}

// checkCommitted asks for one code, and for the engine as it was unless it is OK, and empty if it is ErrBad.
func checkCommitted(t *testing.T, e impl.Engine, m impl.Mutation, wantCode int) impl.Engine {
	t.Helper()
	got, code := checkCommit(t, e, m)
	if code != wantCode || code == impl.ErrBad && !sameAnswer(got, impl.Engine{}) || code != impl.OK && code != impl.ErrBad && !sameAnswer(got, e) {
		t.Errorf("Commit of %s, %s = %s, %d, not %d", told(e), told(m), told(got), code, wantCode)
	}
	return got
}

func checkCommitCrash(t *testing.T, e impl.Engine, m impl.Mutation, keep int) impl.Engine {
	t.Helper()
	want, wantCode := crashOf(e, m, keep)
	got, code := impl.CommitCrash(e, m, keep)
	if code != wantCode || !sameAnswer(got, want) {
		t.Errorf("CommitCrash of %s, %s, %d = %s, %d, not %s, %d", told(e), told(m), keep, told(got), code, told(want), wantCode)
	}
	return got
}

func checkPollMutation(t *testing.T, list []impl.Box, box, feed string) (impl.Mutation, int) {
	t.Helper()
	want, wantCode := pollOf(list, box, feed)
	m, code := impl.PollMutation(list, box, feed)
	if code != wantCode || !sameAnswer(m, want) {
		t.Errorf("PollMutation of %s, %q, %.400q = %s, %d, not %s, %d", told(list), brief(box), feed, told(m), code, told(want), wantCode)
	}
	return m, code
}

// checkPoll holds a poll against the other one, and against what PollMutation and Commit answer.
func checkPoll(t *testing.T, e impl.Engine, box, feed string) (impl.Engine, int, int) {
	t.Helper()
	want, wantCount, wantCode := polledOf(e, box, feed)
	got, count, code := impl.Poll(e, box, feed)
	if count != wantCount || code != wantCode || !sameAnswer(got, want) {
		t.Errorf("Poll of %s, %q, %.400q = %s, %d, %d, not %s, %d, %d", told(e), brief(box), feed, told(got), count, code, told(want), wantCount, wantCode)
	}
	m, mutationCode := checkPollMutation(t, e.Boxes, box, feed)
	if code == impl.OK && (mutationCode != impl.OK || len(m.Items) != count) {
		t.Errorf("Poll of %q, %.400q adds %d, PollMutation tells %s, %d", brief(box), feed, count, told(m), mutationCode)
	}
	return got, count, code
}

// checkPolled asks for one number and one code, and for a feed that is polled again to add nothing, and to leave the log.
func checkPolled(t *testing.T, e impl.Engine, box, feed string, wantCount, wantCode int) impl.Engine {
	t.Helper()
	got, count, code := checkPoll(t, e, box, feed)
	if count != wantCount || code != wantCode {
		t.Errorf("Poll of %s, %q, %.400q = %s, %d, %d, not %d, %d", told(e), brief(box), feed, told(got), count, code, wantCount, wantCode)
	}
	if code != impl.OK {
		return got
	}
	again, count, code := checkPoll(t, got, box, feed)
	if count != 0 || code != impl.OK || again.Log != got.Log || !sameAnswer(again, got) {
		t.Errorf("polled again %q, %.400q = %s, %d, %d", brief(box), feed, told(again), count, code)
	}
	return got
}

// checkNotPolled asks for one code, and for the engine as it was.
func checkNotPolled(t *testing.T, e impl.Engine, box, feed string, wantCode int) {
	t.Helper()
	if got := checkPolled(t, e, box, feed, 0, wantCode); !sameAnswer(got, e) {
		t.Errorf("Poll of %s, %q, %.400q changed it: %s", told(e), brief(box), feed, told(got))
	}
}

// checkWrongEngine asks that no call takes an engine that is not right, whatever the other arguments are.
func checkWrongEngine(t *testing.T, e impl.Engine) {
	t.Helper()
	if impl.EngineOK(e) || rightEngine(e) {
		t.Errorf("%s is right", told(e))
	}
	for _, m := range append(someMutations("news"), madeBox("a"), madeBox("none"), mutationOfBytes(20001)) {
		checkCommitted(t, e, m, impl.ErrBad)
		for _, keep := range []int{math.MinInt, 0, 20, math.MaxInt} {
			got, code := impl.CommitCrash(e, m, keep)
			if code != impl.ErrBad || !sameAnswer(got, impl.Engine{}) {
				t.Errorf("CommitCrash of %s, %s, %d = %s, %d", told(e), told(m), keep, told(got), code)
			}
		}
	}
	for _, box := range []string{"news", "none", "", longText} {
		for _, feed := range []string{feedOfIds("a"), feedOfIds("key 1"), "<feed/>", "<a>", "", longText} {
			want, wantCode := impl.Engine{}, impl.ErrBad
			if len(box) > impl.MaxText || len(feed) > impl.MaxText {
				want, wantCode = e, impl.ErrLong
			}
			got, count, code := impl.Poll(e, box, feed)
			if count != 0 || code != wantCode || !sameAnswer(got, want) {
				t.Errorf("Poll of %s, %q, %.100q = %s, %d, %d, not %s, %d", told(e), brief(box), feed, told(got), count, code, told(want), wantCode)
			}
		}
	}
}
