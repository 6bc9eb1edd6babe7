package tests

import (
	"fmt"
	"math/rand"
	"slices"
	"sort"
	"strings"
	"testing"

	"loop.example/g00268/impl"
)

// entriesOf is an entry of each Id.
func entriesOf(ids ...string) []impl.Entry {
	var list []impl.Entry
	for i, id := range ids {
		list = append(list, impl.Entry{Id: id, Title: "title of " + id, Link: "http://x/" + id, Author: "\u00e4", Date: 1000000 * (i + 1), Content: "text\nof " + id})
	}
	return list
}

// feedOfIds is the text of an Atom feed, itemsOfIds of an RSS one.
func feedOfIds(ids ...string) string {
	return feedText(impl.Feed{Atom: true, Title: "feed", Entries: entriesOf(ids...)})
}

func itemsOfIds(ids ...string) string {
	return feedText(impl.Feed{Title: "feed", Entries: entriesOf(ids...)})
}

// checkAdds asks that a box had just the first entries of the Ids that were never there added, in their order, and nothing else was done.
func checkAdds(t *testing.T, before, after impl.Engine, box string, entries []impl.Entry, count int) {
	t.Helper()
	at := slices.IndexFunc(before.Boxes, func(b impl.Box) bool { return b.Name == box })
	want := copiedBoxes(before.Boxes)
	for _, e := range entries {
		b := &want[at]
		if slices.Contains(b.Keys, e.Id) {
			continue
		}
		mail, code := impl.RenderEntry(e, box)
		if code != impl.OK {
			t.Errorf("RenderEntry of %s has the code %d", told(e), code)
		}
		if back, code := impl.MailEntry(mail); back != e || code != impl.OK {
			t.Errorf("the mail of %s says %s, %d", told(e), told(back), code)
		}
		b.Mails = append(b.Mails, impl.Stored{Uid: b.Next, Text: mail})
		b.Keys = append(b.Keys, e.Id)
		b.Next++
	}
	if !sameAnswer(after.Boxes, want) || count != want[at].Next-before.Boxes[at].Next {
		t.Errorf("%d were added: %s, not %s", count, told(after.Boxes), told(want))
	}
	if (count == 0) != (after.Log == before.Log) {
		t.Errorf("%d were added, and the log became %s", count, told(after.Log))
	}
	if !impl.EngineOK(after) {
		t.Errorf("behind a poll %s is not right", told(after))
	}
}

// checkFeedAdds polls a feed that has no code, in both forms.
func checkFeedAdds(t *testing.T, e impl.Engine, box string, entries []impl.Entry, wantCount int) impl.Engine {
	t.Helper()
	var got impl.Engine
	for _, atom := range []bool{false, true} {
		got = checkPolled(t, e, box, feedText(impl.Feed{Atom: atom, Title: "feed", Entries: entries}), wantCount, impl.OK)
		checkAdds(t, e, got, box, entries, wantCount)
	}
	return got
}

func TestPolledFeeds(t *testing.T) {
	e := engineOf(impl.MaxRoom, madeBox("other"), madeBox("news"))
	checkFeedAdds(t, e, "news", nil, 0)
	e = checkFeedAdds(t, e, "news", entriesOf("a", "b", "c"), 3)
	checkFeedAdds(t, e, "news", entriesOf("c", "a", "b"), 0)
	e = checkFeedAdds(t, e, "news", entriesOf("d", "b", "e", "a"), 2)
	// Twice, and thrice, in the feed itself, the first with what it says.
	twice := entriesOf("f", "g", "f", "h", "g", "f")
	e = checkFeedAdds(t, e, "news", twice, 3)
	if mail, _ := impl.RenderEntry(twice[0], "news"); e.Boxes[1].Mails[5].Text != mail {
		t.Errorf("of two entries of one Id there is %q", e.Boxes[1].Mails[5].Text)
	}
	// An entry that says other things of an Id that is there is not new.
	changed := entriesOf("a", "f")
	changed[0].Title, changed[1].Content = "another", "another"
	checkFeedAdds(t, e, "news", changed, 0)
	// What another box has is new to this one.
	e = checkFeedAdds(t, e, "other", entriesOf("a", "z"), 2)
	// What was expunged does not come again.
	for _, uid := range []int{1, 3, 8} {
		e = checkCommitted(t, e, flagged("news", uid, impl.MoAdd, impl.FlDeleted), impl.OK)
	}
	e = checkCommitted(t, e, expunged("news"), impl.OK)
	checkFeedAdds(t, e, "news", entriesOf("a", "c", "h"), 0)
	e = checkFeedAdds(t, e, "news", entriesOf("h", "i", "c", "j", "i"), 2)
	if keys := e.Boxes[1].Keys; !slices.Equal(keys, []string{"a", "b", "c", "d", "e", "f", "g", "h", "i", "j"}) {
		t.Errorf("the keys are %q", keys)
	}
	var uids []int
	for _, m := range e.Boxes[1].Mails {
		uids = append(uids, m.Uid)
	}
	if !slices.Equal(uids, []int{2, 4, 5, 6, 7, 9, 10}) {
		t.Errorf("the uids are %d", uids)
	}
	checkEngine(t, e, 11)
}

func TestPolledMutations(t *testing.T) {
	boxes := []impl.Box{{Name: "other", Valid: 1, Next: 2, Keys: []string{"b"}}, {Name: "news", Valid: 2, Next: 3, Mails: []impl.Stored{{Uid: 2}}, Keys: []string{"a", "c"}}}
	entries := entriesOf("a", "b", "d", "b", "c")
	for _, feed := range []string{feedOfIds("a", "b", "d", "b", "c"), itemsOfIds("a", "b", "d", "b", "c")} {
		m, code := checkPollMutation(t, boxes, "news", feed)
		want := impl.Mutation{Kind: impl.MuAdd, Box: "news", Items: []impl.Item{{Key: "b", Text: mailText(entries[1], "news")}, {Key: "d", Text: mailText(entries[2], "news")}}}
		if code != impl.OK || !sameAnswer(m, want) || !impl.MutationOK(m) {
			t.Errorf("PollMutation = %s, %d, not %s", told(m), code, told(want))
		}
		// Each box has mails of its own name.
		m, code = checkPollMutation(t, boxes, "other", feed)
		if code != impl.OK || m.Box != "other" || len(m.Items) != 4-1 || m.Items[0].Text != mailText(entries[0], "other") {
			t.Errorf("PollMutation = %s, %d", told(m), code)
		}
	}
	// Without new ones it has a kind and a box, and no items.
	for _, feed := range []string{"<feed/>", "<rss version='2.0'><channel/></rss>", feedOfIds("a", "c"), itemsOfIds("c"), feedOfIds()} {
		m, code := checkPollMutation(t, boxes, "news", feed)
		if code != impl.OK || !sameAnswer(m, impl.Mutation{Kind: impl.MuAdd, Box: "news"}) {
			t.Errorf("PollMutation of %.200q = %s, %d", feed, told(m), code)
		}
	}
	// As others write: an Id in lines, a Link in its place, no date.
	for feed, keys := range map[string][]string{
		"<feed><entry><id> a\n</id></entry><entry><id>\tx\r\n y </id></entry></feed>":                                                              {"x y"},
		"<rss version='2.0'><channel><item><link>c</link></item><item><link> l </link></item></channel></rss>":                                     {"l"},
		"<feed><entry><link href='l'/></entry><entry><id>l</id></entry><entry><id/><link href='m'/></entry><entry><link href='a'/></entry></feed>": {"l", "m"},
		"<feed><entry><id>A</id></entry><entry><id>a&#x308;</id></entry></feed>":                                                                   {"A", "a\u0308"},
	} {
		m, code := checkPollMutation(t, boxes, "news", feed)
		var got []string
		for _, x := range m.Items {
			got = append(got, x.Key)
		}
		if code != impl.OK || !slices.Equal(got, keys) {
			t.Errorf("PollMutation of %q = %q, %d, not %q", feed, got, code, keys)
		}
	}
}

// All the entries that a feed may have, one by one and at once.
func TestPolledFeedsOfManyEntries(t *testing.T) {
	ids := keysOf(impl.MaxEntries)
	at := engineOf(impl.MaxRoom, madeBox("news"))
	for i := range ids {
		at = checkPolled(t, at, "news", feedOfIds(ids[:i+1]...), 1, impl.OK)
	}
	once := checkFeedAdds(t, engineOf(impl.MaxRoom, madeBox("news")), "news", entriesOf(ids...), len(ids))
	if !slices.Equal(at.Boxes[0].Keys, once.Boxes[0].Keys) || !slices.Equal(at.Boxes[0].Mails, once.Boxes[0].Mails) {
		t.Errorf("one by one there is %s, at once %s", told(at.Boxes), told(once.Boxes))
	}
	slices.Reverse(ids)
	back := checkFeedAdds(t, engineOf(impl.MaxRoom, madeBox("news")), "news", entriesOf(ids...), len(ids))
	if !slices.Equal(back.Boxes[0].Keys, ids) {
		t.Errorf("from the last one on the keys are %q", back.Boxes[0].Keys)
	}
	checkNotPolled(t, once, "news", feedOfIds(keysOf(impl.MaxEntries+1)...), impl.ErrMany)
}

// feedsOfCodes is feeds that can not be read, by what ReadFeed answers.
func feedsOfCodes() map[int]string {
	return map[int]string{
		impl.ErrForm:   "<feed><entry><id>a</id><updated>today</updated></entry></feed>",
		impl.ErrRange:  "<feed><title>" + longLine + "</title></feed>",
		impl.ErrNone:   "<feed><entry><id>a</id></entry><entry/></feed>",
		impl.ErrMany:   feedOfIds(keysOf(21)...),
		impl.ErrTwice:  "<feed a='' a=''/>",
		impl.ErrDepth:  strings.Repeat("<feed>", 13),
		impl.ErrClose:  "<feed>",
		impl.ErrEntity: "<feed>&none;</feed>",
		impl.ErrRoot:   "<rss/>",
	}
}

func TestFeedsThatCanNotBeRead(t *testing.T) {
	for wantCode, feed := range feedsOfCodes() {
		if _, code := impl.ReadFeed(feed); code != wantCode {
			t.Errorf("ReadFeed of %.100q has the code %d, not %d", feed, code, wantCode)
		}
		for _, e := range []impl.Engine{engineOf(1000, madeBox("news")), engineOf(16+2, madeBox("news")), engineOf(impl.MaxRoom, fullMutations("news")...), engineOf(3000, plainMutations()...)} {
			checkNotPolled(t, e, "news", feed, wantCode)
			if m, code := checkPollMutation(t, e.Boxes, "news", feed); code != wantCode || !sameAnswer(m, impl.Mutation{}) {
				t.Errorf("PollMutation of %.100q = %s, %d", feed, told(m), code)
			}
			// A box that is not there is told first.
			checkNotPolled(t, e, "none", feed, impl.ErrNone)
		}
	}
	for _, feed := range []string{"", "feed", "\xff", "<feed/><feed/>", "<feed", fullText} {
		_, code := impl.ReadFeed(feed)
		checkNotPolled(t, engineOf(1000, madeBox("news")), "news", feed, code)
	}
}

func TestPollsWithoutTheBox(t *testing.T) {
	for _, e := range someEngines() {
		for _, name := range []string{"none", "", "9", "NEWS", "new", "news ", "news2", "\xff", fullText} {
			for _, feed := range []string{feedOfIds("a"), "<feed/>", "<a>", ""} {
				checkNotPolled(t, e, name, feed, impl.ErrNone)
				if m, code := checkPollMutation(t, e.Boxes, name, feed); code != impl.ErrNone || !sameAnswer(m, impl.Mutation{}) {
					t.Errorf("PollMutation of %q = %s, %d", brief(name), told(m), code)
				}
			}
		}
	}
}

// entryOfMail is an entry whose mail in the box of news has so many bytes.
func entryOfMail(id string, n int) impl.Entry {
	wide := strings.Repeat("\u00e4", 100)
	e := impl.Entry{Id: id, Title: wide, Link: wide, Author: wide}
	say := func(wide, plain int) int {
		e.Content = strings.Repeat("\u00e4", wide) + strings.Repeat("x", plain)
		return len(mailText(e, "news"))
	}
	most := sort.Search(impl.MaxContent/2, func(k int) bool { return say(k, 0) > n })
	for k := most - 1; k >= 0; k-- {
		for plain := 0; say(k, plain) <= n; plain++ {
			if say(k, plain) == n {
				return e
			}
		}
	}
	panic(fmt.Sprint("no mail of ", n))
}

func TestMailsOfMaxLetter(t *testing.T) {
	e := engineOf(impl.MaxRoom, plainMutations()...)
	for _, n := range []int{3998, 3999, 4000} {
		got := checkFeedAdds(t, e, "news", []impl.Entry{entryOfMail("i", n)}, 1)
		if size := len(got.Boxes[0].Mails[3].Text); size != n {
			t.Errorf("a mail of %d bytes has %d", n, size)
		}
		checkFeedAdds(t, e, "news", append(entriesOf("a"), entryOfMail("i", n), entryOfMail("j", n)), 3)
	}
	for _, n := range []int{4001, 4002, 4100, 4200} {
		long := entryOfMail("i", n)
		for _, entries := range [][]impl.Entry{{long}, append(entriesOf("a", "b"), long), append([]impl.Entry{long}, entriesOf("a", "key 1")...), append([]impl.Entry{long}, entriesOf("i")...)} {
			for _, atom := range []bool{false, true} {
				feed := feedText(impl.Feed{Atom: atom, Entries: entries})
				checkNotPolled(t, e, "news", feed, impl.ErrRange)
				if m, code := checkPollMutation(t, e.Boxes, "news", feed); code != impl.ErrRange || !sameAnswer(m, impl.Mutation{}) {
					t.Errorf("PollMutation of a mail of %d bytes = %s, %d", n, told(m), code)
				}
			}
		}
		// Of an entry that is not new no mail is made.
		there := entryOfMail("key 2", n)
		checkFeedAdds(t, e, "news", append(entriesOf("a"), there), 1)
		checkFeedAdds(t, e, "news", append(entriesOf("i"), long), 1)
	}
	// The name of the box counts: the same mail is longer in one of a longer name.
	wide := engineOf(impl.MaxRoom, madeBox("news"), madeBox("news2"))
	feed := feedText(impl.Feed{Entries: []impl.Entry{entryOfMail("i", 4000)}})
	checkPolled(t, wide, "news", feed, 1, impl.OK)
	checkNotPolled(t, wide, "news2", feed, impl.ErrRange)
}

// No room in the box, in its keys, or in the log: nothing is added, those neither for which there is room.
func TestPollsWithoutRoom(t *testing.T) {
	for n := range 6 {
		keys := keysOf(30 - n)
		mails := engineOf(impl.MaxRoom, madeBox("news"), added("news", keys[:20]...), added("news", keys[20:]...))
		ids := []string{"u", "v", "w", "x", "y", "z"}
		if n > 0 {
			checkFeedAdds(t, mails, "news", entriesOf(ids[:n]...), n)
		}
		checkFeedAdds(t, mails, "news", entriesOf("key 1", "key 2"), 0)
		for _, more := range [][]string{ids[:n+1], append([]string{"key 1"}, ids[:n+1]...), append(slices.Clone(ids[:n+1]), ids[0])} {
			checkNotPolled(t, mails, "news", feedOfIds(more...), impl.ErrFull)
			checkNotPolled(t, mails, "news", itemsOfIds(more...), impl.ErrFull)
		}
	}
	spent := engineOf(impl.MaxRoom, spentMutations("news")...)
	checkNotPolled(t, spent, "news", feedOfIds("new"), impl.ErrUid)
	checkNotPolled(t, spent, "news", itemsOfIds("key 1", "new", "key 2"), impl.ErrUid)
	checkFeedAdds(t, spent, "news", entriesOf("key 1", "key 60"), 0)
	// A log that is just full behind the poll, and one byte too small.
	for _, ids := range [][]string{{"a"}, {"a", "b", "key 1", "a"}} {
		m, _ := pollOf(engineOf(impl.MaxRoom, plainMutations()...).Boxes, "news", feedOfIds(ids...))
		size := len(logOf(0, append(plainMutations(), m)...).Data)
		for behind := -3; behind < 3; behind++ {
			e := engineOf(size+behind, plainMutations()...)
			if behind < 0 {
				checkNotPolled(t, e, "news", feedOfIds(ids...), impl.ErrFull)
				checkNotPolled(t, e, "news", itemsOfIds(ids...), impl.ErrFull)
				continue
			}
			got := checkPolled(t, e, "news", feedOfIds(ids...), len(m.Items), impl.OK)
			if len(got.Log.Data) != size {
				t.Errorf("the log has %d bytes, not %d", len(got.Log.Data), size)
			}
		}
	}
	// A full log has room for a feed that adds nothing.
	tight := engineOf(len(logOf(0, plainMutations()...).Data), plainMutations()...)
	checkFeedAdds(t, tight, "news", entriesOf("key 2", "key 4"), 0)
	checkNotPolled(t, tight, "news", feedOfIds("a"), impl.ErrFull)
}

// Mails that fit one by one may be too long for one record.
func TestPollsOfMaxRecord(t *testing.T) {
	e := engineOf(impl.MaxRoom, madeBox("news"))
	entries := func(last int) []impl.Entry {
		var list []impl.Entry
		for i := range 4 {
			list = append(list, entryOfMail(fmt.Sprint("i", i), 4000))
		}
		return append(list, entryOfMail("i4", last))
	}
	// 11 bytes ahead, of each of the five 4, its Id's 2, and its mail's.
	rest := impl.MaxRecord - 11 - 5*6 - 4*4000
	got := checkFeedAdds(t, e, "news", entries(rest), 5)
	if len(got.Log.Data) != len(e.Log.Data)+7+impl.MaxRecord {
		t.Errorf("the log has %d bytes", len(got.Log.Data))
	}
	checkNotPolled(t, e, "news", feedText(impl.Feed{Entries: entries(rest + 1)}), impl.ErrFull)
	for i := range 5 {
		checkFeedAdds(t, e, "news", entries(rest + 1)[:i], i)
	}
	checkFeedAdds(t, checkFeedAdds(t, e, "news", entries(rest + 1)[:3], 3), "news", entries(rest+1), 2)
}

// Of two faults the first that is named counts.
func TestFaultsOfPolls(t *testing.T) {
	long := feedText(impl.Feed{Entries: append(entriesOf("a"), entryOfMail("i", 4001))})
	full, spent := engineOf(impl.MaxRoom, fullMutations("news")...), engineOf(impl.MaxRoom, spentMutations("news")...)
	tight := engineOf(16+2, madeBox("news"))
	// A mail that is too long comes ahead of room, but behind what is wrong with the feed and the box.
	for _, e := range []impl.Engine{full, spent, tight} {
		checkNotPolled(t, e, "news", long, impl.ErrRange)
		checkNotPolled(t, e, "none", long, impl.ErrNone)
		checkNotPolled(t, e, "news", strings.TrimSuffix(long, "</rss>"), impl.ErrClose)
		checkNotPolled(t, e, "news", strings.Replace(long, "</channel>", "<item/></channel>", 1), impl.ErrNone)
	}
	// The box's own room comes ahead of the log's.
	spentTight := engineOf(len(spent.Log.Data), spentMutations("news")...)
	checkNotPolled(t, spentTight, "news", feedOfIds("new"), impl.ErrUid)
	// Beside a long text nothing else counts, and the engine is as it was.
	for _, e := range []impl.Engine{full, spent, tight, {}, wrongEngines()[0]} {
		for _, texts := range [][2]string{{longText, feedOfIds("a")}, {"news", longText}, {"none", longText}, {longText, longText}, {"news", feedOfIds("a") + strings.Repeat(" ", impl.MaxText)}, {endlessText, "<a>"}, {"9", endlessText}} {
			if got, count, code := checkPoll(t, e, texts[0], texts[1]); count != 0 || code != impl.ErrLong || !sameAnswer(got, e) {
				t.Errorf("Poll of %d and %d bytes = %s, %d, %d", len(texts[0]), len(texts[1]), told(got), count, code)
			}
		}
	}
	// A feed of all the bytes that it may have is taken.
	padded := feedOfIds("a", "b")
	padded += strings.Repeat(" ", impl.MaxText-len(padded))
	checkPolled(t, engineOf(impl.MaxRoom, madeBox("news")), "news", padded, 2, impl.OK)
}

func TestPolledBoxesThatAreNotRight(t *testing.T) {
	wrong := plainBox("news", 1)
	wrong.Keys[1] = wrong.Keys[0]
	for _, list := range [][]impl.Box{{wrong}, {{}}, {plainBox("news", 2)}, {plainBox("news", 1), plainBox("news", 2)}, {plainBox("news", 1), {}}, {boxOf("news", 1, 61)}, make([]impl.Box, 5), make([]impl.Box, impl.MaxList)} {
		for _, box := range []string{"news", "none", "", fullText} {
			for _, feed := range []string{feedOfIds("a"), "<feed/>", "<a>", fullText} {
				if m, code := checkPollMutation(t, list, box, feed); code != impl.ErrBad || !sameAnswer(m, impl.Mutation{}) {
					t.Errorf("PollMutation of %s = %s, %d", told(list), told(m), code)
				}
			}
		}
		for _, texts := range [][2]string{{longText, "<feed/>"}, {"news", longText}, {endlessText, endlessText}} {
			if m, code := checkPollMutation(t, list, texts[0], texts[1]); code != impl.ErrLong || !sameAnswer(m, impl.Mutation{}) {
				t.Errorf("PollMutation of %s = %s, %d", told(list), told(m), code)
			}
		}
	}
	for _, texts := range [][2]string{{"news", feedOfIds("a")}, {"none", "<a>"}, {longText, longText}} {
		if m, code := checkPollMutation(t, make([]impl.Box, impl.MaxList+1), texts[0], texts[1]); code != impl.ErrLong || !sameAnswer(m, impl.Mutation{}) {
			t.Errorf("PollMutation of too many boxes = %s, %d", told(m), code)
		}
	}
}

// Where the power goes while a feed is polled, it adds all or nothing, and polled again the rest.
func TestCrashesOfPolls(t *testing.T) {
	e := engineOf(impl.MaxRoom, plainMutations()...)
	feed := feedOfIds("key 1", "a", "b", "key 2", "a", "c")
	next := checkPolled(t, e, "news", feed, 3, impl.OK)
	m, _ := impl.PollMutation(e.Boxes, "news", feed)
	size := len(next.Log.Data) - len(e.Log.Data)
	for keep := -1; keep <= size+2; keep++ {
		crashed, code := impl.CommitCrash(e, m, keep)
		want, more := e, 3
		if keep >= size {
			want, more = next, 0
		}
		if code != impl.OK || !sameAnswer(crashed, want) {
			t.Errorf("CommitCrash of a poll, %d of %d kept = %s, %d", keep, size, told(crashed), code)
		}
		if keep%50 < 2 || keep > size-5 {
			if again := checkPolled(t, crashed, "news", feed, more, impl.OK); !sameAnswer(again, next) {
				t.Errorf("polled again behind a crash, %d of %d kept: %s", keep, size, told(again))
			}
		}
	}
}

// Feeds of all sorts of texts, in both forms, one behind the other, into boxes whose mails go by and by.
func TestMadePolls(t *testing.T) {
	codes := map[int]int{}
	for seed := range int64(25) {
		source := rand.New(rand.NewSource(seed))
		e := engineOf(impl.MaxRoom, madeBox("news"), madeBox("more"))
		for range 30 {
			box := oneOf(source, "news", "news", "news", "news", "more", "none")
			f := madeFeed(source)
			if source.Intn(3) > 0 {
				f.Entries = f.Entries[:min(len(f.Entries), 3)]
			}
			for i := range f.Entries {
				if source.Intn(2) == 0 {
					f.Entries[i].Id = fmt.Sprint("k", source.Intn(100))
				}
			}
			text := feedText(f)
			if source.Intn(4) == 0 {
				text = madeText(source)
			}
			next, count, code := checkPoll(t, e, box, text)
			codes[code]++
			if code != impl.OK {
				if !sameAnswer(next, e) || count != 0 {
					t.Errorf("with the code %d %d were added: %s", code, count, told(next))
				}
				continue
			}
			read, _ := feedOf(text)
			checkAdds(t, e, next, box, read.Entries, count)
			again, count, code := impl.Poll(next, box, text)
			if count != 0 || code != impl.OK || !sameAnswer(again, next) {
				t.Errorf("polled again %d were added, %d: %s", count, code, told(again))
			}
			e = someExpunged(source, next)
		}
	}
	if codes[impl.OK] < 100 || codes[impl.ErrNone] < 10 || codes[impl.ErrFull] < 5 {
		t.Errorf("the polls have the codes %v", codes)
	}
}

// someExpunged is an engine of which some mails went, by chance.
func someExpunged(source *rand.Rand, e impl.Engine) impl.Engine {
	for _, b := range e.Boxes {
		for _, m := range b.Mails {
			if source.Intn(30) == 0 {
				e, _ = impl.Commit(e, flagged(b.Name, m.Uid, impl.MoAdd, impl.FlDeleted))
			}
		}
		e, _ = impl.Commit(e, expunged(b.Name))
	}
	return e
}
