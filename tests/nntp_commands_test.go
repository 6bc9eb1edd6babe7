package tests

import (
	"fmt"
	"math"
	"math/rand"
	"slices"
	"strconv"
	"strings"
	"testing"

	"loop.example/g00268/impl"
)

// newsBoxes is a box of five mails, one of two, of which one went, an empty one, and one of which all went.
func newsBoxes() []impl.Box {
	return append(newsEngine(0).Boxes, boxOf("emptied", 4, 3))
}

// someReaders is sessions of each sort on these boxes: without a Group, on a mail, on none, on one that went, with a Group that is not there any more.
func someReaders() []impl.Nntp {
	return []impl.Nntp{
		{}, {Group: "news", Now: 1}, {Group: "news", Now: 3}, {Group: "news", Now: 5}, {Group: "news"}, {Group: "news", Now: 6}, {Group: "news", Now: 1000}, {Group: "more", Now: 2}, {Group: "more", Now: 1}, {Group: "more", Now: 3}, {Group: "none_yet"}, {Group: "none_yet", Now: 1}, {Group: "emptied"}, {Group: "emptied", Now: 2}, {Group: "gone"}, {Group: "gone", Now: 1}, {Group: "News", Now: 1000},
	}
}

// idOf is the Message-ID of a mail.
func idOf(m impl.Stored) string {
	mail, _ := mailOf(m.Text)
	id, _ := fieldOf(mail, "Message-ID")
	return id
}

// parted is the first line of an answer, and what its block says.
func parted(t *testing.T, said string) (string, string) {
	t.Helper()
	line, block, _ := strings.Cut(said, "\r\n")
	text, code := impl.DotUnstuff(block)
	if code != impl.OK {
		t.Fatalf("%.200q has no block: %d", said, code)
	}
	return line, text
}

// Of each name how many words it may have, the first ones that it takes, and what it says in a box of mails.
var newsLines = []struct {
	name        string
	least, most int
	words       []string
	says        string
}{
	{"CAPABILITIES", 0, 0, nil, "101 can"}, {"MODE", 1, 1, []string{"reader"}, "201 no posting"}, {"QUIT", 0, 0, nil, "205 bye"}, {"LIST", 0, 0, nil, "215 groups"}, {"GROUP", 1, 1, []string{"news"}, "211 5 1 5 news"}, {"LISTGROUP", 0, 1, []string{"more"}, "211 5 1 5 news"},
	{"ARTICLE", 0, 1, []string{"4"}, "220 "}, {"HEAD", 0, 1, []string{"4"}, "221 "}, {"BODY", 0, 1, []string{"4"}, "222 "}, {"STAT", 0, 1, []string{"4"}, "223 "}, {"NEXT", 0, 0, nil, "223 "}, {"LAST", 0, 0, nil, "223 "}, {"OVER", 0, 1, []string{"2-4"}, "224 overview"},
}

func TestLinesInEveryState(t *testing.T) {
	boxes := newsBoxes()
	for _, x := range newsLines {
		for _, s := range someReaders() {
			for _, name := range mixed(x.name) {
				for n := range x.most + 3 {
					// Too few words, as many as asked for, and too many.
					words := append(slices.Clone(x.words[:min(n, len(x.words))]), slices.Repeat([]string{"1"}, max(0, n-len(x.words)))...)
					words = append([]string{name}, words...)
					next, said, _ := checkHeard(t, boxes, s, strings.Join(words, " "))
					if n < x.least || n > x.most {
						if said != "501 syntax\r\n" || next != s {
							t.Errorf("in %s %q gets %q, %s", told(s), words, said, told(next))
						}
					} else if strings.HasPrefix(said, "500") || said == "501 syntax\r\n" {
						t.Errorf("in %s %q gets %q", told(s), words, said)
					}
					// Blanks between words, ahead of the first one and behind the last one say nothing, however many they are.
					for _, line := range []string{" " + strings.Join(words, " "), strings.Join(words, " ") + " ", "   " + strings.Join(words, "  ") + "    ", strings.Join(words, strings.Repeat(" ", 100))} {
						if other, again, _ := checkHeard(t, boxes, s, line); again != said || other != next {
							t.Errorf("in %s %q gets %q, %s, not %q, %s", told(s), line, again, told(other), said, told(next))
						}
					}
				}
			}
		}
		if _, said, _ := checkHeard(t, boxes, impl.Nntp{Group: "news", Now: 3}, strings.Join(append([]string{x.name}, x.words[:x.least]...), " ")); !strings.HasPrefix(said, x.says) {
			t.Errorf("%s says %q, not %q", x.name, said, x.says)
		}
	}
}

func TestLinesOfOtherNames(t *testing.T) {
	boxes := newsBoxes()
	for _, s := range someReaders() {
		for _, line := range []string{"", " ", "   ", strings.Repeat(" ", 500)} {
			if next, said, _ := checkHeard(t, boxes, s, line); said != "501 empty\r\n" || next != s {
				t.Errorf("%q gets %q", line, said)
			}
		}
		for _, line := range []string{"post", "POST", "x", ".", "-", "1", "articles", "ARTICL", "ARTICLE1", "article,1", "nex", "nexts", "xover 1-2", "xhdr subject 1", "hdr subject", "ihave <1@news>", "help", "date", "newgroups", "authinfo user me", "a noop", "list-group news", "list.", "quit,", "\"quit\"", "{4}", "over-", "over1-2", "mode-reader", "reader", "news", "slave", "starttls", strings.Repeat("x", 500), "post x y z"} {
			if next, said, _ := checkHeard(t, boxes, s, line); said != "500 unknown\r\n" || next != s {
				t.Errorf("%.60q gets %q", line, said)
			}
		}
		// The word behind MODE is a name as well, and no other one.
		for _, line := range []string{"mode reader", "MODE READER", "Mode Reader", "mODE rEADER", "mode READER"} {
			if next, said, _ := checkHeard(t, boxes, s, line); said != "201 no posting\r\n" || next != s {
				t.Errorf("%q gets %q", line, said)
			}
		}
		for _, line := range []string{"mode", "mode stream", "mode read", "mode readers", "mode reader reader", "mode reader x", "mode x", "mode x reader"} {
			if next, said, _ := checkHeard(t, boxes, s, line); said != "501 syntax\r\n" || next != s {
				t.Errorf("%q gets %q", line, said)
			}
		}
	}
}

func TestCapabilitiesAndQuit(t *testing.T) {
	boxes := newsBoxes()
	for _, s := range someReaders() {
		n := newsreader{t, boxes, s}
		n.say("capabilities", s.Group, s.Now, "101 can", "VERSION 2", "READER", "OVER", ".")
		if said := n.ask("quit"); said != "205 bye\r\n" || n.s != (impl.Nntp{Over: true}) {
			t.Errorf("quit gets %q, %s", said, told(n.s))
		}
		for _, line := range []string{"list", "quit", "", "group news", "\xff", strings.Repeat("x", 500), strings.Repeat("x", 501), fullText} {
			if next, said, code := impl.NntpStep(boxes, n.s, line); next != n.s || said != "" || code != impl.ErrState {
				t.Errorf("a session that is over: %.60q gets %q, %s, %d", line, said, told(next), code)
			}
		}
		checkHeardCode(t, boxes, n.s, longText, impl.ErrLong)
	}
}

func TestGroups(t *testing.T) {
	boxes := newsBoxes()
	for _, s := range someReaders() {
		n := newsreader{t, boxes, s}
		n.say("list", s.Group, s.Now, "215 groups", "news 5 1 n", "more 2 2 n", "none_yet 0 1 n", "emptied 3 4 n", ".")
		n.say("group news", "news", 1, "211 5 1 5 news")
		n.say("GROUP more", "more", 2, "211 1 2 2 more")
		n.say("group none_yet", "none_yet", 0, "211 0 1 0 none_yet")
		n.say("group emptied", "emptied", 0, "211 0 4 3 emptied")
		n.say("listgroup", "emptied", 0, "211 0 4 3 emptied", ".")
		n.say("listgroup news", "news", 1, "211 5 1 5 news", "1", "2", "3", "4", "5", ".")
		n.say("Listgroup more", "more", 2, "211 1 2 2 more", "2", ".")
		n.say("listgroup none_yet", "none_yet", 0, "211 0 1 0 none_yet", ".")
		n.say("list", "none_yet", 0, "215 groups", "news 5 1 n", "more 2 2 n", "none_yet 0 1 n", "emptied 3 4 n", ".")
		n.say("group  news ", "news", 1, "211 5 1 5 news")
		n.ask("stat 4")
		// Names count as they stand; without the group all stays as it was.
		for _, name := range []string{"none", "News", "NEWS", "new", "news2", "news.", "*", "\"news\"", "9", "none-yet", "(news)", strings.Repeat("n", 40), strings.Repeat("n", 400)} {
			n.say("group "+name, "news", 4, "411 no such group")
			n.say("listgroup "+name, "news", 4, "411 no such group")
		}
		// Of the Group itself it is as if its name were said.
		n.say("listgroup", "news", 1, "211 5 1 5 news", "1", "2", "3", "4", "5", ".")
	}
	n := newsreader{t, nil, impl.Nntp{}}
	n.say("list", "", 0, "215 groups", ".")
	n.say("group news", "", 0, "411 no such group")
	n.say("listgroup", "", 0, "412 no group")
	for _, line := range []string{"listgroup news", "listgroup n"} {
		n.say(line, "", 0, "411 no such group")
	}
	// A box of many mails, of great uids.
	for _, b := range []impl.Box{boxOf("full", 1, 60, upTo(31, 60)...), boxOf("full", 1, 60, 1, 60), boxOf("full", 1, 60, 60)} {
		uids := uidsOf(b)
		n := newsreader{t, []impl.Box{b}, impl.Nntp{}}
		n.say("list", "", 0, "215 groups", fmt.Sprintf("full 60 %d n", uids[0]), ".")
		want := []string{fmt.Sprintf("211 %d %d 60 full", len(uids), uids[0])}
		n.say("group full", "full", uids[0], want...)
		for _, uid := range uids {
			want = append(want, strconv.Itoa(uid))
		}
		n.say("listgroup full", "full", uids[0], append(want, ".")...)
	}
}

// Without a group, or with one that is not there any more, what needs one is refused, whatever stands behind its name.
func TestLinesWithoutAGroup(t *testing.T) {
	for _, s := range []impl.Nntp{{}, {Group: "gone"}, {Group: "gone", Now: 1}, {Group: "News", Now: 1000}, {Group: "new", Now: 2}} {
		for _, boxes := range [][]impl.Box{newsBoxes(), nil} {
			n := newsreader{t, boxes, s}
			for _, line := range []string{"article", "head", "body", "stat", "article 1", "head 7", "body x", "stat -1", "stat 01", "next", "last", "over", "over 1", "over 1-", "over 1-2", "over x", "over 2-1-", "listgroup", "NEXT", "Over 9-"} {
				n.say(line, s.Group, s.Now, "412 no group")
			}
			for _, line := range []string{"article 1 2", "next 1", "last x", "over 1 2", "listgroup a b", "stat 1 2 3"} {
				n.say(line, s.Group, s.Now, "501 syntax")
			}
		}
	}
	// One that is gone may be left for another.
	n := newsreader{t, newsBoxes(), impl.Nntp{Group: "gone", Now: 7}}
	n.say("group none", "gone", 7, "411 no such group")
	n.say("group more", "more", 2, "211 1 2 2 more")
}

func TestArticles(t *testing.T) {
	boxes := newsBoxes()
	mails := boxes[0].Mails
	n := newsreader{t, boxes, impl.Nntp{}}
	n.ask("group news")
	for number, name := range map[int]string{220: "article", 221: "head", 222: "body", 223: "stat"} {
		n.ask("group news")
		for i, m := range mails {
			first := fmt.Sprintf("%d %d %s", number, m.Uid, idOf(m))
			for _, line := range []string{fmt.Sprint(name, " ", m.Uid), name, strings.ToUpper(name), fmt.Sprint(name, "  ", m.Uid, " ")} {
				said := n.ask(line)
				if !strings.HasPrefix(said, first+"\r\n") || n.s != (impl.Nntp{Group: "news", Now: m.Uid}) {
					t.Errorf("%q gets %.200q, %s, not %q", line, said, told(n.s), first)
				}
				want, _ := partOf(m.Text, map[string]string{"head": "HEADER", "body": "TEXT"}[name])
				if name == "head" {
					want = strings.TrimSuffix(want, "\r\n\r\n") + "\r\n"
				}
				if name == "stat" {
					if said != first+"\r\n" {
						t.Errorf("%q gets %q", line, said)
					}
				} else if _, text := parted(t, said); text != want {
					t.Errorf("%q gets %q, not %q", line, text, want)
				}
			}
			// The number of one that is not there, or of none, leaves Now where it is.
			for _, word := range []string{"0", "6", "7", "60", "61", "1000", "1001", "4294967297", "18014398509481985", "999999999999999999", "-1", "-5", "-999999999999999999"} {
				n.say(name+" "+word, "news", i+1, "423 no such number")
			}
			for _, word := range []string{"x", "+1", "++1", "-", "--1", "-0", "00", "01", "-01", "1.", "1.0", ".1", "1,2", "1-", "1-2", "1x", "0x1", "1e0", "1_0", "*", "<1@news>", idOf(m), "\"1\"", "(1)", "1000000000000000000", "9223372036854775807", "-9223372036854775808", "18446744073709551617", "-1000000000000000000", "0000000000000000001", strings.Repeat("1", 400)} {
				n.say(name+" "+word, "news", i+1, "501 no number")
			}
		}
		for _, s := range []impl.Nntp{{Group: "news"}, {Group: "news", Now: 6}, {Group: "news", Now: 1000}, {Group: "more", Now: 1}, {Group: "more", Now: 3}, {Group: "none_yet"}, {Group: "none_yet", Now: 1}, {Group: "emptied", Now: 3}} {
			other := newsreader{t, boxes, s}
			other.say(name, s.Group, s.Now, "420 no article")
			other.say(name+" 1001", s.Group, s.Now, "423 no such number")
			other.say(name+" x", s.Group, s.Now, "501 no number")
		}
	}
}

// readMails is texts whose lines begin with points, and others that look like what a session says.
func readMails() []string {
	return append(trickyMails(),
		"X: y\r\n\r\n.\r\n", "X: y\r\n\r\n..\r\n", "X: y\r\n\r\n...\r\n.a\r\n\r\n.\r\n.\r\n", ".: y\r\n\r\n", "..: y\r\n.x: z\r\n\r\n.\r\n", "\r\n.\r\n", ".Subject: a\r\n .\r\n ..b\r\n\r\n.\r\n220 1 x\r\n.\r\n", "Message-ID: <.@x>\r\n\r\n", "Message-ID: a b\r\n c\r\n\r\n\r\n", "message-id: <1@x>\r\nMessage-ID: <2@x>\r\n\r\nMessage-ID: <3@x>\r\n", "X: y\r\n\r\n"+strings.Repeat(".\r\n", 1000), manyFields(40)+"\r\n.\r\n",
	)
}

// What is read is just what is fetched.
func TestReadArticlesAreFetched(t *testing.T) {
	for first := 0; first < len(readMails()); first += 6 {
		m := impl.Mutation{Kind: impl.MuAdd, Box: "news"}
		for i, text := range readMails()[first:min(first+6, len(readMails()))] {
			m.Items = append(m.Items, impl.Item{Key: fmt.Sprint(i), Text: text})
		}
		e := engineOf(impl.MaxRoom, madeBox("news"), lettered("news", "gone", "a", "b"), flagged("news", 1, 1, 8), expunged("news"), m)
		checkReadIsFetched(t, e)
	}
	for seed := range int64(10) {
		source := rand.New(rand.NewSource(seed))
		e := engineOf(impl.MaxRoom, madeBox("news"))
		for i := range 5 {
			entry := madeEntry(source)
			entry.Id = fmt.Sprint(seed, " ", i)
			entry.Content = oneOf(source, ".", "..", ".\n.", "a\n.b\n", ".\n", "") + entry.Content
			if impl.EntryOK(entry) {
				e, _, _ = impl.Poll(e, "news", feedText(impl.Feed{Atom: seed%2 == 0, Entries: []impl.Entry{entry}}))
			}
		}
		if len(e.Boxes[0].Mails) < 3 {
			t.Errorf("the feeds of the seed %d left %d mails", seed, len(e.Boxes[0].Mails))
		}
		checkReadIsFetched(t, e)
	}
}

func checkReadIsFetched(t *testing.T, e impl.Engine) {
	t.Helper()
	c := newClient(t, e, "s examine news")
	n := newsreader{t, e.Boxes, impl.Nntp{}}
	n.ask("group news")
	for i, m := range e.Boxes[0].Mails {
		fetched := map[string]string{}
		for _, body := range bodiesTold(t, c.ask(fmt.Sprintf("a fetch %d (body[] body[header] body[text])", i+1))) {
			fetched[body[0]] = body[1]
		}
		if len(fetched) != 3 || fetched[""] != m.Text {
			t.Fatalf("of %.100q is fetched %.100q", m.Text, fetched)
		}
		for _, word := range []string{fmt.Sprint(" ", m.Uid), ""} {
			line, text := parted(t, n.ask("article"+word))
			if text != fetched[""] || line != fmt.Sprintf("220 %d %s", m.Uid, idOf(m)) {
				t.Errorf("ARTICLE is %q, %.200q, but %.200q is fetched", line, text, fetched[""])
			}
			if line, text := parted(t, n.ask("head"+word)); text+"\r\n" != fetched["HEADER"] || line != fmt.Sprintf("221 %d %s", m.Uid, idOf(m)) {
				t.Errorf("HEAD is %q, %.200q, but %.200q is fetched", line, text, fetched["HEADER"])
			}
			if line, text := parted(t, n.ask("body"+word)); text != fetched["TEXT"] || line != fmt.Sprintf("222 %d %s", m.Uid, idOf(m)) {
				t.Errorf("BODY is %q, %.200q, but %.200q is fetched", line, text, fetched["TEXT"])
			}
		}
	}
}

// A mail without a Message-ID is told without one; a Text that is no mail has neither that, nor a part, nor an overview.
func TestArticlesThatAreNoMails(t *testing.T) {
	b := boxOf("news", 1, 60)
	b.Mails = []impl.Stored{{Uid: 1, Text: "X: y\r\n\r\n.body\r\n"}, {Uid: 2, Text: "Message-ID: \r\n\r\n"}}
	for i, text := range noMails() {
		b.Mails = append(b.Mails, impl.Stored{Uid: 3 + i, Text: text})
	}
	last := 2 + len(noMails())
	n := newsreader{t, []impl.Box{b}, impl.Nntp{}}
	n.say("group news", "news", 1, fmt.Sprintf("211 %d 1 %d news", len(b.Mails), last))
	n.say("article", "news", 1, "220 1 ", "X: y", "", "..body", ".")
	n.say("head", "news", 1, "221 1 ", "X: y", ".")
	n.say("body", "news", 1, "222 1 ", "..body", ".")
	n.say("article 2", "news", 2, "220 2 ", "Message-ID: ", "", ".")
	n.say("head", "news", 2, "221 2 ", "Message-ID: ", ".")
	n.say("body", "news", 2, "222 2 ", ".")
	for uid := 3; uid <= last; uid++ {
		n.say("next", "news", uid, fmt.Sprintf("223 %d ", uid))
		n.say("stat", "news", uid, fmt.Sprintf("223 %d ", uid))
		n.say("article", "news", uid, fmt.Sprintf("220 %d ", uid), ".")
		n.say(fmt.Sprint("head ", uid), "news", uid, fmt.Sprintf("221 %d ", uid), ".")
		n.say("body", "news", uid, fmt.Sprintf("222 %d ", uid), ".")
		n.say("over", "news", uid, "420 no article")
		n.say(fmt.Sprint("over ", uid), "news", uid, "423 none")
	}
	n.say("next", "news", last, "421 no next")
	n.say("over 3-", "news", last, "423 none")
	n.say("over 1-", "news", last, "224 overview", "1\t\t\t\t\t\t15\t1", "2\t\t\t\t\t\t16\t0", ".")
	n.say("over 2-9", "news", last, "224 overview", "2\t\t\t\t\t\t16\t0", ".")
}

// letteredBox is a box with mails of just these uids.
func letteredBox(name string, valid, count int, uids ...int) impl.Box {
	b := boxOf(name, valid, count)
	for _, uid := range uids {
		b.Mails = append(b.Mails, impl.Stored{Uid: uid, Text: mailText(entriesOf(fmt.Sprint("id ", uid))[0], name)})
	}
	return b
}

// From the first on by NEXT, and from the last on by LAST, all mails come, one by one; from any place the nearest one.
func TestWalks(t *testing.T) {
	lists := append(subsets(6), []int{60}, []int{1, 60}, upTo(31, 60), upTo(1, 30), []int{2, 3, 5, 8, 13, 21, 34, 55})
	for _, uids := range lists {
		b := letteredBox("news", 1, 60, uids...)
		n := newsreader{t, []impl.Box{b}, impl.Nntp{}}
		n.ask("group news")
		if len(uids) == 0 {
			n.say("next", "news", 0, "420 no article")
			n.say("last", "news", 0, "420 no article")
		} else {
			ids := map[int]string{}
			for _, m := range b.Mails {
				ids[m.Uid] = fmt.Sprintf("223 %d %s", m.Uid, idOf(m))
			}
			at := len(uids) - 1
			n.say("last", "news", uids[0], "422 no last")
			for _, uid := range uids[1:] {
				n.say("next", "news", uid, ids[uid])
				n.say("stat", "news", uid, ids[uid])
			}
			n.say("next", "news", uids[at], "421 no next")
			n.say("next", "news", uids[at], "421 no next")
			for i := range at {
				n.say("last", "news", uids[at-1-i], ids[uids[at-1-i]])
			}
			n.say("last", "news", uids[0], "422 no last")
			n.say("stat", "news", uids[0], ids[uids[0]])
		}
		for now := range 9 {
			above, below := "421 no next", "422 no last"
			for _, m := range b.Mails {
				if m.Uid > now && above == "421 no next" {
					above = fmt.Sprintf("223 %d %s", m.Uid, idOf(m))
				}
				if m.Uid < now {
					below = fmt.Sprintf("223 %d %s", m.Uid, idOf(m))
				}
			}
			if now == 0 {
				above, below = "420 no article", "420 no article"
			}
			s := impl.Nntp{Group: "news", Now: now}
			if _, said, _ := checkHeard(t, n.boxes, s, "next"); said != above+"\r\n" {
				t.Errorf("from %d among %d NEXT says %q, not %q", now, uids, said, above)
			}
			if _, said, _ := checkHeard(t, n.boxes, s, "last"); said != below+"\r\n" {
				t.Errorf("from %d among %d LAST says %q, not %q", now, uids, said, below)
			}
		}
		n.s = impl.Nntp{Group: "news", Now: 1000}
		n.say("next", "news", 1000, "421 no next")
		if len(uids) > 0 {
			last := b.Mails[len(uids)-1]
			n.say("last", "news", last.Uid, fmt.Sprintf("223 %d %s", last.Uid, idOf(last)))
		}
	}
}

// overSays is what OVER says of the mails of a box from one uid to another.
func overSays(b impl.Box, from, to int, none string) []string {
	list := []string{"224 overview"}
	for _, m := range b.Mails {
		if line, _ := impl.OverLine(m); m.Uid >= from && m.Uid <= to {
			list = append(list, line)
		}
	}
	if len(list) == 1 {
		return []string{none}
	}
	return append(list, ".")
}

func TestOverviewsOfRanges(t *testing.T) {
	for _, uids := range [][]int{nil, {1}, {6}, {1, 2, 3, 4, 5, 6}, {2, 4, 5}, {1, 6}, {3}} {
		b := letteredBox("news", 1, 6, uids...)
		n := newsreader{t, []impl.Box{b}, impl.Nntp{Group: "news", Now: 4}}
		for from := range 9 {
			n.say(fmt.Sprint("over ", from), "news", 4, overSays(b, from, from, "423 none")...)
			n.say(fmt.Sprintf("OVER %d-", from), "news", 4, overSays(b, from, math.MaxInt, "423 none")...)
			for to := range 9 {
				// Of two in the wrong order there is none between.
				n.say(fmt.Sprintf("over %d-%d", from, to), "news", 4, overSays(b, from, to, "423 none")...)
			}
		}
		for now := range 9 {
			n.s.Now = now
			n.say("over", "news", now, overSays(b, now, now, "420 no article")...)
		}
		n.s.Now = 1000
		n.say("over", "news", 1000, "420 no article")
		n.say("over 0-999999999999999999", "news", 1000, overSays(b, 1, 6, "423 none")...)
		n.say("over 999999999999999999-", "news", 1000, "423 none")
		n.say("over 1000-", "news", 1000, "423 none")
		n.say("over 1001-1", "news", 1000, "423 none")
		for _, word := range []string{"x", "-", "--", "-1", "-1-2", "1--2", "1--", "1-2-", "1-2-3", "1-x", "x-1", "x-", "+1", "1-+2", "01", "1-02", "00-", "-0", "1--0", "1,2", "1:2", "*", "1-*", "1.", "<1@news>", "1000000000000000000", "1-1000000000000000000", "1000000000000000000-", "18446744073709551617", "9223372036854775807-", strings.Repeat("9", 400)} {
			n.say("over "+word, "news", 1000, "501 no range")
		}
		n.say("over 1- 2", "news", 1000, "501 syntax")
		n.say("over 1 - 2", "news", 1000, "501 syntax")
	}
}

// Overviews of many mails may be longer than what is stuffed by itself.
func TestLongAnswers(t *testing.T) {
	long := folded("Subject", wordsOf(1900, 60)) + folded("From", wordsOf(1900, 60)) + "\r\n"
	b := boxOf("news", 1, 60)
	for uid := 31; uid <= 60; uid++ {
		b.Mails = append(b.Mails, impl.Stored{Uid: uid, Text: long})
	}
	n := newsreader{t, []impl.Box{b}, impl.Nntp{}}
	n.ask("group news")
	said := n.ask("over 1-")
	line, block, _ := strings.Cut(said, "\r\n")
	text, ended := strings.CutSuffix(block, "\r\n.\r\n")
	if line != "224 overview" || !ended || len(strings.Split(text, "\r\n")) != 30 || len(said) < 110000 {
		t.Errorf("OVER of long mails says %.100q, %d bytes", said, len(said))
	}
	lines := append([]string{"listgroup news"}, slices.Repeat([]string{"over 1-"}, 59)...)
	if said, code := checkReadRun(t, n.boxes, lines); len(said) < 6000000 || code != impl.OK {
		t.Errorf("a run of long answers says %d bytes, %d", len(said), code)
	}
	for i, text := range []string{mailOfBytes(4000), "X: y\r\n\r\n" + strings.Repeat(".\r\n", 1330)} {
		b.Mails[i].Text = text
		if _, got := parted(t, n.ask(fmt.Sprint("article ", 31+i))); got != text {
			t.Errorf("ARTICLE of %d bytes is %d bytes", len(text), len(got))
		}
	}
}

func TestBoundsOfNewsLines(t *testing.T) {
	boxes := newsBoxes()
	for _, s := range someReaders() {
		for _, line := range []string{"stat 4", "group more", "x", "", "next"} {
			_, want, _ := checkHeard(t, boxes, s, line)
			for size, says := range map[int]string{499: want, 500: want, 501: "501 bad line\r\n", 502: "501 bad line\r\n", 4001: "501 bad line\r\n", 65536: "501 bad line\r\n"} {
				next, said, code := checkHeard(t, boxes, s, line+strings.Repeat(" ", size-len(line)))
				if said != says || code != impl.OK || size > 500 && next != s {
					t.Errorf("%q of %d characters gets %q, %d", line, size, said, code)
				}
			}
			for _, size := range []int{65537, 100000} {
				checkHeardCode(t, boxes, s, line+strings.Repeat(" ", size-len(line)), impl.ErrLong)
			}
		}
	}
	// Every sign, at every place of a line.
	s := impl.Nntp{Group: "news", Now: 2}
	for c := range 256 {
		sign := string([]byte{byte(c)})
		for _, line := range []string{sign, "stat" + sign, sign + "stat", "stat " + sign, "st" + sign + "at", "stat 1" + sign, "group " + sign, "over 1" + sign + "2"} {
			next, said, _ := checkHeard(t, boxes, s, line)
			if bad := c < 32 || c > 126; bad != (said == "501 bad line\r\n") || bad && next != s {
				t.Errorf("%q gets %q", line, said)
			}
		}
	}
	// What is wrong with its signs is told ahead of all else.
	for _, line := range []string{"\x1f", "\x7f", "\t", "stat\t1", "post\t", "quit\r\n", "quit\r", "quit\n", "mode reader\x00", "group n\u00e4ws", "stat 1 2 \x7f", " \x1f "} {
		if next, said, code := checkHeard(t, boxes, s, line); said != "501 bad line\r\n" || next != s || code != impl.OK {
			t.Errorf("%q gets %q, %d", line, said, code)
		}
	}
}

// wrongReaders is sessions that are not right, in each way.
func wrongReaders() []impl.Nntp {
	list := []impl.Nntp{{Now: 1}, {Now: -1}, {Now: 1000}, {Now: math.MaxInt}, {Over: true, Now: 1}, {Over: true, Now: -1}, {Over: true, Group: "news"}, {Over: true, Group: "news", Now: 1}, {Over: true, Group: "9"}}
	for _, group := range []string{"9", " ", "a b", "news ", " news", "n-s", "\u00e4", "news\r\n", "\x00", "*", strings.Repeat("n", 41), longText} {
		list = append(list, impl.Nntp{Group: group}, impl.Nntp{Group: group, Now: 1})
	}
	for _, now := range []int{-1, -2, 1001, 1002, 1 << 32, 1<<32 + 1, math.MaxInt, math.MinInt} {
		list = append(list, impl.Nntp{Group: "news", Now: now}, impl.Nntp{Group: "gone", Now: now})
	}
	return list
}

func TestWrongReaders(t *testing.T) {
	boxes := newsBoxes()
	for _, s := range wrongReaders() {
		for _, line := range []string{"list", "quit", "", "group news", "stat 1", "\xff", strings.Repeat("x", 501), fullText} {
			checkHeardCode(t, boxes, s, line, impl.ErrBad)
			checkHeardCode(t, nil, s, line, impl.ErrBad)
		}
		checkHeardCode(t, boxes, s, longText, impl.ErrLong)
		checkHeardCode(t, make([]impl.Box, 4097), s, "list", impl.ErrLong)
	}
	for _, s := range append(someReaders(), impl.Nntp{Group: strings.Repeat("n", 40)}, impl.Nntp{Group: "_", Now: 1000}, impl.Nntp{Group: "Z9", Now: 999}) {
		checkHeardCode(t, boxes, s, "list", impl.OK)
		checkHeardCode(t, nil, s, "list", impl.OK)
	}
}

// wrongStores is boxes that are not right.
func wrongStores() [][]impl.Box {
	return [][]impl.Box{
		{{}}, {plainBox("news", 2)}, {plainBox("news", 0)}, {plainBox("9", 1)}, {plainBox("", 1)}, {plainBox("news", 1), plainBox("news", 2)}, {plainBox("news", 1), plainBox("more", 1)}, {plainBox("news", 1), plainBox("more", 3)}, {boxOf("news", 1, 61)}, {boxOf("news", 1, 5, 2, 1)}, {boxOf("news", 1, 5, 6)}, {boxOf("news", 1, 60, upTo(1, 31)...)}, {changedBox(func(b *impl.Box) { b.Keys[0] = b.Keys[1] })}, {changedBox(func(b *impl.Box) { b.Mails[0].Flags = 32 })}, {changedBox(func(b *impl.Box) { b.Mails[0].Text = strings.Repeat("x", 4001) })}, {changedBox(func(b *impl.Box) { b.Mails[0].Uid = 0 })},
		append(newsBoxes(), plainBox("fifth", 5)), make([]impl.Box, 5), make([]impl.Box, 4096),
	}
}

func TestReadersOfWrongBoxes(t *testing.T) {
	for _, boxes := range wrongStores() {
		// One that is over comes behind boxes that are not right.
		for _, s := range []impl.Nntp{{}, {Group: "news", Now: 1}, {Group: "gone"}, {Over: true}, {Now: 1}} {
			for _, line := range []string{"list", "quit", "", "\xff", strings.Repeat("x", 501)} {
				checkHeardCode(t, boxes, s, line, impl.ErrBad)
			}
			checkHeardCode(t, boxes, s, longText, impl.ErrLong)
		}
		for _, lines := range [][]string{nil, {"list"}, {""}, make([]string, 60), make([]string, 61), make([]string, 4096), {longText}} {
			checkReadRunCode(t, boxes, lines, impl.ErrBad)
		}
		checkReadRunCode(t, boxes, make([]string, 4097), impl.ErrLong)
	}
	for _, boxes := range [][]impl.Box{make([]impl.Box, 4097), make([]impl.Box, 10000)} {
		for _, s := range []impl.Nntp{{}, {Over: true}, {Now: 1}} {
			checkHeardCode(t, boxes, s, "list", impl.ErrLong)
			checkHeardCode(t, boxes, s, longText, impl.ErrLong)
		}
		for _, lines := range [][]string{nil, {"list"}, make([]string, 61), make([]string, 4097)} {
			checkReadRunCode(t, boxes, lines, impl.ErrLong)
		}
	}
}

func TestReadRuns(t *testing.T) {
	boxes := newsBoxes()
	id := idOf(boxes[0].Mails[1])
	for _, x := range []struct {
		lines []string
		said  string
	}{
		{nil, ""}, {[]string{}, ""}, {[]string{""}, "501 empty\r\n"}, {[]string{"quit"}, "205 bye\r\n"}, {[]string{"quit", "list", "quit", "\xff"}, "205 bye\r\n"}, {[]string{"quit now", "stat", "post"}, "501 syntax\r\n412 no group\r\n500 unknown\r\n"},
		{[]string{"group news", "next", "group none", "stat", "over 9", "mode reader", "QUIT", "list"}, "211 5 1 5 news\r\n223 2 " + id + "\r\n411 no such group\r\n223 2 " + id + "\r\n423 none\r\n201 no posting\r\n205 bye\r\n"},
		// Within a list a line may be as long as it is: it is none.
		{[]string{strings.Repeat("x", 501), fullText, longText, endlessText, "listgroup none_yet"}, strings.Repeat("501 bad line\r\n", 4) + "211 0 1 0 none_yet\r\n.\r\n"},
	} {
		if said, code := checkReadRun(t, boxes, x.lines); said != x.said || code != impl.OK {
			t.Errorf("NntpRun of %.100q = %q, %d, not %q", x.lines, said, code, x.said)
		}
	}
}

func TestBoundsOfReadRuns(t *testing.T) {
	for _, boxes := range [][]impl.Box{newsBoxes(), nil} {
		for n, code := range map[int]int{0: impl.OK, 1: impl.OK, 59: impl.OK, 60: impl.OK, 61: impl.ErrMany, 62: impl.ErrMany, 4096: impl.ErrMany, 4097: impl.ErrLong, 100000: impl.ErrLong} {
			for _, line := range []string{"list", "", "quit", "\xff", strings.Repeat("x", 501)} {
				checkReadRunCode(t, boxes, slices.Repeat([]string{line}, n), code)
			}
		}
	}
	said, code := impl.NntpRun(nil, slices.Repeat([]string{""}, 60))
	if said != strings.Repeat("501 empty\r\n", 60) || code != impl.OK {
		t.Errorf("NntpRun of 60 lines = %q, %d", said, code)
	}
}

// What lines say one by one they say as one run.
func TestMadeReadings(t *testing.T) {
	says := map[string]int{}
	for seed := range int64(200) {
		source := rand.New(rand.NewSource(seed))
		boxes := newsBoxes()
		s, all := impl.Nntp{}, ""
		lines := []string{"group news"}
		for len(lines) < 60 {
			lines = append(lines, madeLineOfNews(source))
		}
		if seed%3 == 0 {
			lines[20+source.Intn(40)] = "quit"
		}
		for _, line := range lines {
			if s.Over {
				break
			}
			next, said, code := checkHeard(t, boxes, s, line)
			if code != impl.OK {
				t.Fatalf("%q has the code %d", line, code)
			}
			first, _, _ := strings.Cut(said, "\r\n")
			if found := articlePattern.FindStringSubmatch(first); found != nil {
				first = "22" + found[1]
				if found[2] != fmt.Sprint(next.Now) {
					t.Errorf("behind %q, which gets %.60q, Now is %d", line, said, next.Now)
				}
			}
			says[first]++
			s, all = next, all+said
		}
		if said, code := checkReadRun(t, boxes, lines); said != all || code != impl.OK {
			t.Errorf("the run of the seed %d says other things than its lines", seed)
		}
	}
	for _, first := range []string{"101 can", "201 no posting", "205 bye", "215 groups", "211 5 1 5 news", "211 1 2 2 more", "211 0 1 0 none_yet", "220", "221", "222", "223", "224 overview", "411 no such group", "420 no article", "421 no next", "422 no last", "423 no such number", "423 none", "500 unknown", "501 bad line", "501 empty", "501 no number", "501 no range", "501 syntax"} {
		if says[first] < 5 {
			t.Errorf("only %d lines get %q: %v", says[first], first, says)
		}
	}
}

// Mails go and come between the lines of a session: its Now stays where it was, and leads on from there.
func TestReadersOfChangingBoxes(t *testing.T) {
	c := newClient(t, newsEngine(20000))
	n := newsreader{t, c.e.Boxes, impl.Nntp{}}
	n.ask("group news")
	n.ask("stat 3")
	c.commit(flagged("news", 3, 2, 8), flagged("news", 4, 2, 8), expunged("news"))
	n.boxes = c.e.Boxes
	n.say("stat", "news", 3, "420 no article")
	n.say("stat 3", "news", 3, "423 no such number")
	n.say("over", "news", 3, "420 no article")
	n.say("over 3-4", "news", 3, "423 none")
	n.say("next", "news", 5, "223 5 "+idOf(n.boxes[0].Mails[2]))
	n.say("next", "news", 5, "421 no next")
	c.commit(lettered("news", "f"))
	n.boxes = c.e.Boxes
	n.say("next", "news", 6, "223 6 "+idOf(n.boxes[0].Mails[3]))
	n.say("list", "news", 6, "215 groups", "news 6 1 n", "more 2 2 n", "none_yet 0 1 n", ".")
	n.s.Now = 4
	n.say("last", "news", 2, "223 2 "+idOf(n.boxes[0].Mails[1]))
	c.commit(flagged("news", 1, 2, 8), flagged("news", 2, 2, 8), flagged("news", 5, 2, 8), flagged("news", 6, 2, 8), expunged("news"))
	n.boxes = c.e.Boxes
	n.say("next", "news", 2, "421 no next")
	n.say("last", "news", 2, "422 no last")
	n.say("listgroup", "news", 0, "211 0 7 6 news", ".")
	n.say("next", "news", 0, "420 no article")
	c.commit(lettered("news", "g"))
	n.boxes = c.e.Boxes
	n.say("next", "news", 0, "420 no article")
	n.say("group news", "news", 7, "211 1 7 7 news")
	// Flags are nobody's business here, and nothing that is read is seen.
	n.ask("article 7")
	if n.boxes[0].Mails[0].Flags != 0 {
		t.Error("what was read is seen")
	}
}
