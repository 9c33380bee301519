package tests

import (
	"fmt"
	"math"
	"slices"
	"strings"
	"sync"
	"testing"

	"loop.example/g00188/impl"
)

// whether a message is right by the chapter's words
func plainMessageOk(m impl.Message) bool {
	within := func(n, first, last int) bool { return first <= n && n <= last }
	if !within(m.Kind, 1, 6) || !within(m.From, 1, 4) || !within(m.To, 1, 4) || m.From == m.To {
		return false
	}
	if !within(m.Term, 0, 100000) || !within(m.LogTerm, 0, 100000) || !within(m.Index, 0, 1000000) || !within(m.Commit, 0, 1000000) {
		return false
	}
	if len(m.Entries) > 4 || m.Kind != 3 && len(m.Entries) > 0 {
		return false
	}
	for at, e := range m.Entries {
		if !plainEntryOk(e) || e.Term < m.LogTerm || e.Term > m.Term {
			return false
		}
		for _, ahead := range m.Entries[:at] {
			if ahead.Term > e.Term {
				return false
			}
		}
	}
	if m.Kind != 5 {
		return len(m.Conf) == 0 && len(m.Data) == 0 && !m.Last
	}
	_, right := plainConfText(m.Conf)
	return right && len(m.Data) <= 60
}

// what a message's bytes tell by the chapter's words, whether it is right or not
func messagePieces(m impl.Message) pieces {
	var p pieces
	p.oneByte(m.Kind)
	p.oneByte(m.From)
	p.oneByte(m.To)
	p.numbers(m.Term, m.Index, m.LogTerm, m.Commit)
	p.flag(m.Ok)
	p.flag(m.Last)
	p.numbers(len(m.Entries))
	for _, e := range m.Entries {
		p.short("E\x01" + plainVar(e.Term) + string([]byte{byte(e.Kind)}) + e.Data)
	}
	nodes := ""
	for _, n := range m.Conf {
		nodes += string([]byte{byte(n)})
	}
	p.short(nodes)
	p.short(m.Data)
	return p
}

// the places of some pieces: Kind, From, To, the four numbers, the two flags and the count stand in these
const (
	termPlace    = 3
	indexPlace   = 4
	logTermPlace = 5
	commitPlace  = 6
	okPlace      = 7
	lastPlace    = 8
	countPlace   = 9
)

// the bytes of the entry in this place, the length ahead of it; and of the conf, and of Data
func entryPlace(at int) int         { return 11 + 2*at }
func confPlace(m impl.Message) int  { return entryPlace(len(m.Entries)) }
func chunkPlace(m impl.Message) int { return confPlace(m) + 2 }
func (p pieces) withShort(at int, text string) string {
	return p[:at-1].text() + plainVar(len(text)) + text + p[at+1:].text()
}

func plainEncode(m impl.Message) (string, bool) {
	if !plainMessageOk(m) {
		return "", false
	}
	return messagePieces(m).text(), true
}

func plainDecode(text string) (impl.Message, bool) {
	r := &plainReader{rest: text}
	m := impl.Message{Kind: r.oneByte(), From: r.oneByte(), To: r.oneByte()}
	m.Term = r.number()
	m.Index = r.number()
	m.LogTerm = r.number()
	m.Commit = r.number()
	m.Ok = r.flag()
	m.Last = r.flag()
	for count := r.number(); count > 0 && !r.torn; count-- {
		index, e, ok := plainReadEntry(r.short())
		r.torn = r.torn || !ok || index != 1
		m.Entries = append(m.Entries, e)
	}
	if nodes := r.short(); nodes != "" {
		conf, ok := plainReadConf(nodes)
		r.torn = r.torn || !ok
		m.Conf = conf
	}
	m.Data = r.short()
	if r.torn || r.rest != "" || !plainMessageOk(m) {
		return impl.Message{}, false
	}
	return m, true
}

func sameMessage(a, b impl.Message) bool {
	return a.Kind == b.Kind && a.From == b.From && a.To == b.To &&
		a.Term == b.Term && a.Index == b.Index && a.LogTerm == b.LogTerm && a.Commit == b.Commit &&
		a.Ok == b.Ok && slices.Equal(a.Entries, b.Entries) && slices.Equal(a.Conf, b.Conf) &&
		a.Data == b.Data && a.Last == b.Last
}

func copyMessage(m impl.Message) impl.Message {
	m.Entries, m.Conf = slices.Clone(m.Entries), slices.Clone(m.Conf)
	return m
}

func tellMessage(m impl.Message) string { return fmt.Sprintf("%.1500s", fmt.Sprintf("%#v", m)) }

// the message with something else in it
func changedMessage(m impl.Message, change func(m *impl.Message)) impl.Message {
	m = copyMessage(m)
	change(&m)
	return m
}

func wantEncode(t *testing.T, m impl.Message, want string, right bool) {
	t.Helper()
	if got := impl.MessageOk(m); got != right {
		t.Fatalf("MessageOk(%s) = %v", tellMessage(m), got)
	}
	if got, ok := impl.Encode(m); got != want || ok != right {
		t.Fatalf("Encode(%s) = %.900q, %v, want %.900q, %v", tellMessage(m), got, ok, want, right)
	}
}

func wantDecode(t *testing.T, text string, want impl.Message, right bool) {
	t.Helper()
	got, ok := impl.Decode(text)
	if !sameMessage(got, want) || ok != right {
		t.Fatalf("Decode(%.900q) of %d bytes = %s, %v, want %s, %v", text, len(text), tellMessage(got), ok, tellMessage(want), right)
	}
	if !ok {
		return
	}
	if again, told := impl.Encode(got); again != text || !told {
		t.Fatalf("Encode of what %.900q was read as = %.900q, %v", text, again, told)
	}
}

// by hand, by the chapter's words done anew, and by the program
func refuseMessage(t *testing.T, m impl.Message) {
	t.Helper()
	if plainMessageOk(m) {
		t.Fatalf("by hand %s is not right", tellMessage(m))
	}
	wantEncode(t, m, "", false)
}

func refuseDecode(t *testing.T, text string) {
	t.Helper()
	if m, ok := plainDecode(text); ok {
		t.Fatalf("by hand %.900q is no message, and not %s", text, tellMessage(m))
	}
	wantDecode(t, text, impl.Message{}, false)
}

// whether a message has a text of its own: each Kind, node and entry's Kind that it has is one byte, and each number has a VarText
func isTellable(m impl.Message) bool {
	for _, n := range append([]int{m.Kind, m.From, m.To}, m.Conf...) {
		if n < 0 || n > 255 {
			return false
		}
	}
	for _, e := range m.Entries {
		if e.Kind < 0 || e.Kind > 255 || e.Term < 0 || e.Term > 1000000000 {
			return false
		}
	}
	return min(m.Term, m.Index, m.LogTerm, m.Commit) >= 0 && max(m.Term, m.Index, m.LogTerm, m.Commit) <= 1000000000
}

// a message in bytes, and back; whether it is right
func lookAtMessage(t *testing.T, m impl.Message) bool {
	t.Helper()
	want, right := plainEncode(m)
	wantEncode(t, m, want, right)
	if right {
		wantDecode(t, want, m, true)
	} else if isTellable(m) {
		// told whole it is none all the same
		refuseDecode(t, messagePieces(m).text())
	}
	return right
}

func acceptMessage(t *testing.T, m impl.Message) {
	t.Helper()
	if !lookAtMessage(t, m) {
		t.Fatalf("by hand %s is right", tellMessage(m))
	}
}

// whether the text is a message's
func lookAtDecode(t *testing.T, text string) bool {
	t.Helper()
	want, right := plainDecode(text)
	wantDecode(t, text, want, right)
	return right
}

// a right message of each Kind, with all that the Kind may have
func fullMessage(kind int) impl.Message {
	m := impl.Message{Kind: kind, From: 2, To: 3, Term: 300, Index: 70000, LogTerm: 200, Commit: 129, Ok: true}
	switch kind {
	case 3:
		m.Entries = []impl.Entry{none(200), conf(201, "\x01\x02\x04"), command(201, "x\x00\xff"), command(300, longText(640))}
	case 5:
		m.Conf, m.Data, m.Last = []int{1, 2, 3, 4}, longText(60), true
	}
	return m
}

// right messages, of each Kind some
func rightMessages() []impl.Message {
	var list []impl.Message
	for kind := 1; kind <= 6; kind++ {
		list = append(list, impl.Message{Kind: kind, From: 1, To: 2}, impl.Message{Kind: kind, From: 4, To: 1, Term: 100000, Index: 1000000, LogTerm: 100000, Commit: 1000000, Ok: true})
		if kind == 5 {
			list[len(list)-2].Conf, list[len(list)-1].Conf = []int{3}, []int{2, 4}
			list[len(list)-1].Data, list[len(list)-2].Last = "x", true
		}
		list = append(list, fullMessage(kind))
	}
	for count := 1; count <= 4; count++ {
		m := fullMessage(3)
		m.Ok, m.Entries = false, m.Entries[:count]
		list = append(list, m, impl.Message{Kind: 3, From: 3, To: 4, Entries: slices.Repeat([]impl.Entry{none(0)}, count)})
		list = append(list, impl.Message{Kind: 3, From: 3, To: 4, Term: 1, Entries: slices.Repeat([]impl.Entry{command(1, "")}, count)})
	}
	return list
}

func TestMessageConstants(t *testing.T) {
	got := []int{impl.MaxSend, impl.ChunkSize, impl.AskVote, impl.TellVote, impl.AskAppend, impl.TellAppend, impl.AskInstall, impl.TellInstall}
	if want := []int{4, 60, 1, 2, 3, 4, 5, 6}; !slices.Equal(got, want) {
		t.Errorf("constants %v, want %v", got, want)
	}
}

// messages whose bytes are written out by hand
func TestMessageBytes(t *testing.T) {
	for _, known := range []struct {
		m    impl.Message
		text string
	}{
		{impl.Message{Kind: 1, From: 1, To: 2}, "\x01\x01\x02\x00\x00\x00\x00\x00\x00\x00\x00\x00"},
		{impl.Message{Kind: 1, From: 1, To: 2, Term: 3, Index: 4, LogTerm: 2}, "\x01\x01\x02\x03\x04\x02\x00\x00\x00\x00\x00\x00"},
		{impl.Message{Kind: 1, From: 4, To: 3, Term: 5, Index: 6, LogTerm: 7, Commit: 8, Ok: true}, "\x01\x04\x03\x05\x06\x07\x08\x01\x00\x00\x00\x00"},
		{impl.Message{Kind: 2, From: 2, To: 1, Term: 127, Ok: true}, "\x02\x02\x01\x7f\x00\x00\x00\x01\x00\x00\x00\x00"},
		{impl.Message{Kind: 2, From: 2, To: 4, Term: 128, Index: 129, LogTerm: 16383, Commit: 16384}, "\x02\x02\x04\x80\x01\x81\x01\xff\x7f\x80\x80\x01\x00\x00\x00\x00\x00"},
		{impl.Message{Kind: 2, From: 3, To: 4, Term: 100000, Index: 1000000, LogTerm: 100000, Commit: 1000000}, "\x02\x03\x04\xa0\x8d\x06\xc0\x84\x3d\xa0\x8d\x06\xc0\x84\x3d\x00\x00\x00\x00\x00"},
		{impl.Message{Kind: 3, From: 1, To: 3, Term: 9, Index: 8, LogTerm: 7, Commit: 6}, "\x03\x01\x03\x09\x08\x07\x06\x00\x00\x00\x00\x00"},
		{impl.Message{Kind: 3, From: 1, To: 3, Term: 2, Index: 5, LogTerm: 1, Commit: 4, Entries: []impl.Entry{none(1)}}, "\x03\x01\x03\x02\x05\x01\x04\x00\x00\x01\x04E\x01\x01\x01\x00\x00"},
		{impl.Message{Kind: 3, From: 1, To: 3, Term: 2, Entries: []impl.Entry{none(0), conf(1, "\x01\x02\x03"), command(2, "two words"), command(2, "")}},
			"\x03\x01\x03\x02\x00\x00\x00\x00\x00\x04\x04E\x01\x00\x01\x07E\x01\x01\x02\x01\x02\x03\x0dE\x01\x02\x03two words\x04E\x01\x02\x03\x00\x00"},
		{impl.Message{Kind: 3, From: 4, To: 1, Term: 100000, Index: 300, LogTerm: 128, Commit: 1, Ok: true, Entries: []impl.Entry{conf(128, "\x04"), command(100000, longText(640))}},
			"\x03\x04\x01\xa0\x8d\x06\xac\x02\x80\x01\x01\x01\x00\x02\x06E\x01\x80\x01\x02\x04\x86\x05E\x01\xa0\x8d\x06\x03" + longText(640) + "\x00\x00"},
		{impl.Message{Kind: 3, From: 4, To: 1, Term: 1, Entries: []impl.Entry{command(1, longText(122)), command(1, longText(123)), command(1, longText(124))}},
			"\x03\x04\x01\x01\x00\x00\x00\x00\x00\x03\x7eE\x01\x01\x03" + longText(122) + "\x7fE\x01\x01\x03" + longText(123) + "\x80\x01E\x01\x01\x03" + longText(124) + "\x00\x00"},
		{impl.Message{Kind: 4, From: 3, To: 2, Term: 1, Index: 2}, "\x04\x03\x02\x01\x02\x00\x00\x00\x00\x00\x00\x00"},
		{impl.Message{Kind: 4, From: 3, To: 2, Term: 1, Index: 200, Ok: true}, "\x04\x03\x02\x01\xc8\x01\x00\x00\x01\x00\x00\x00\x00"},
		{impl.Message{Kind: 5, From: 2, To: 3, Conf: []int{1}}, "\x05\x02\x03\x00\x00\x00\x00\x00\x00\x00\x01\x01\x00"},
		{impl.Message{Kind: 5, From: 2, To: 3, Term: 3, Index: 60, LogTerm: 2, Commit: 120, Conf: []int{1, 2, 3, 4}, Data: "piece"}, "\x05\x02\x03\x03\x3c\x02\x78\x00\x00\x00\x04\x01\x02\x03\x04\x05piece"},
		{impl.Message{Kind: 5, From: 2, To: 4, Term: 3, Index: 60, LogTerm: 2, Commit: 180, Ok: true, Conf: []int{2, 4}, Data: longText(60), Last: true}, "\x05\x02\x04\x03\x3c\x02\xb4\x01\x01\x01\x00\x02\x02\x04\x3c" + longText(60)},
		{impl.Message{Kind: 5, From: 2, To: 4, Conf: []int{3}, Data: "\x00", Last: true}, "\x05\x02\x04\x00\x00\x00\x00\x00\x01\x00\x01\x03\x01\x00"},
		{impl.Message{Kind: 6, From: 3, To: 1, Term: 3, Index: 60, Commit: 240}, "\x06\x03\x01\x03\x3c\x00\xf0\x01\x00\x00\x00\x00\x00"},
		{impl.Message{Kind: 6, From: 3, To: 1, Term: 3, Index: 60, LogTerm: 1, Ok: true}, "\x06\x03\x01\x03\x3c\x01\x00\x01\x00\x00\x00\x00"},
	} {
		if text, ok := plainEncode(known.m); text != known.text || !ok {
			t.Fatalf("by hand the text of %s is\n%.900q, and not\n%.900q, %v", tellMessage(known.m), known.text, text, ok)
		}
		acceptMessage(t, known.m)
	}
	for _, m := range rightMessages() {
		acceptMessage(t, m)
	}
	wantEncode(t, impl.Message{}, "", false)
	wantDecode(t, "", impl.Message{}, false)
}

// any right message, of this Kind
func drawnMessage(d *draw, kind int) impl.Message {
	number := func(most int) int {
		switch d.below(4) {
		case 0:
			return d.below(min(most, 4) + 1)
		case 1:
			return min(most, []int{127, 128, 129, 255, 256, 16383, 16384, 65536}[d.below(8)])
		case 2:
			return most - d.below(min(most, 2)+1)
		}
		return d.below(most + 1)
	}
	m := impl.Message{Kind: kind, From: 1 + d.below(4), Term: number(100000), Index: number(1000000), LogTerm: number(100000), Commit: number(1000000), Ok: d.below(2) == 0}
	m.To = (m.From+d.below(3))%4 + 1
	switch kind {
	case 3:
		count := d.below(5)
		if count > 0 && m.LogTerm > m.Term {
			m.LogTerm, m.Term = m.Term, m.LogTerm
		}
		term := m.LogTerm
		for range count {
			if d.below(2) == 0 {
				term += number(m.Term - term)
			}
			m.Entries = append(m.Entries, drawnEntry(d, term))
		}
	case 5:
		m.Conf = slices.Clone(handConfs()[d.below(15)].conf)
		m.Data, m.Last = longText(100)[d.below(40):][:d.below(61)], d.below(2) == 0
	}
	return m
}

// Data at their edges, and numbers and confs that are wrong, made once
var (
	someData       = sync.OnceValue(edgeData)
	someNumbers    = sync.OnceValue(messageNumbers)
	someWrongConfs = sync.OnceValue(wrongConfs)
)

func drawnEntry(d *draw, term int) impl.Entry {
	switch d.below(4) {
	case 0:
		return none(term)
	case 1:
		return conf(term, handConfs()[d.below(15)].text)
	case 2:
		return command(term, longText(641)[d.below(2):][:d.below(641)])
	}
	return command(term, someData()[d.below(len(someData()))])
}

// promise 18: many right messages come back from their bytes, and two unlike ones have unlike bytes
func TestMessagesComeBack(t *testing.T) {
	d := draw(18)
	var kinds [7]int
	var counts [5]int
	var sizes [61]int
	confs, entries, flags := map[string]int{}, map[int]int{}, map[[3]int]int{}
	seen := map[string]impl.Message{}
	for at := range 30000 {
		m := drawnMessage(&d, 1+at%6)
		text, ok := impl.Encode(m)
		back, read := impl.Decode(text)
		if !ok || !read || !impl.MessageOk(m) || !sameMessage(back, m) {
			t.Fatalf("%s comes back from %.900q as %s, %v, %v", tellMessage(m), text, tellMessage(back), ok, read)
		}
		if other, there := seen[text]; there && !sameMessage(other, m) {
			t.Fatalf("%.900q is the text of %s and of %s", text, tellMessage(other), tellMessage(m))
		}
		seen[text] = m
		acceptMessage(t, m)
		kinds[m.Kind]++
		flags[[3]int{m.Kind, len(plainFlag(m.Ok)), len(plainFlag(m.Last))}]++
		switch m.Kind {
		case 3:
			counts[len(m.Entries)]++
			for _, e := range m.Entries {
				entries[e.Kind]++
			}
		case 5:
			confs[fmt.Sprint(m.Conf)]++
			sizes[len(m.Data)]++
		}
	}
	if slices.Min(kinds[1:]) < 5000 || slices.Min(counts[:]) < 500 || slices.Min(sizes[:]) < 20 || len(confs) != 15 || len(entries) != 3 || len(flags) != 14 {
		t.Errorf("drawn are %v Kinds, %v entries of the Kinds %v, %v confs, Data of %v bytes, and flags %v", kinds, counts, entries, confs, sizes, flags)
	}
}

// `no` or `yes`
func plainFlag(is bool) string { return map[bool]string{true: "yes", false: "no"}[is] }

// two right messages that are unlike in one field alone have unlike bytes
func TestUnlikeMessages(t *testing.T) {
	messages := rightMessages()
	texts := map[string]impl.Message{}
	add := func(m impl.Message) {
		t.Helper()
		text, ok := impl.Encode(m)
		if !ok {
			t.Fatalf("%s has no text", tellMessage(m))
		}
		if other, there := texts[text]; there && !sameMessage(other, m) {
			t.Fatalf("%.900q is the text of %s and of %s", text, tellMessage(other), tellMessage(m))
		}
		texts[text] = m
	}
	for _, m := range messages {
		clear(texts)
		add(m)
		looked := 0
		for _, change := range messageChanges() {
			other := changedMessage(m, change)
			if !plainMessageOk(other) || sameMessage(other, m) {
				continue
			}
			add(other)
			looked++
		}
		if looked < 5 {
			t.Fatalf("%d others of %s", looked, tellMessage(m))
		}
	}
}

// each change makes another message of any one, or none at all
func messageChanges() []func(m *impl.Message) {
	list := []func(m *impl.Message){
		func(m *impl.Message) { m.Kind ^= 1 }, func(m *impl.Message) { m.Kind ^= 2 }, func(m *impl.Message) { m.Kind ^= 4 }, func(m *impl.Message) { m.Kind = (m.Kind + 2) % 7 },
		func(m *impl.Message) { m.From, m.To = m.To, m.From }, func(m *impl.Message) { m.From = 5 - m.From }, func(m *impl.Message) { m.To = 5 - m.To },
		func(m *impl.Message) { m.Term++ }, func(m *impl.Message) { m.Term += 128 }, func(m *impl.Message) { m.Term-- },
		func(m *impl.Message) { m.Index++ }, func(m *impl.Message) { m.Index-- }, func(m *impl.Message) { m.LogTerm++ }, func(m *impl.Message) { m.LogTerm-- }, func(m *impl.Message) { m.Commit++ }, func(m *impl.Message) { m.Commit-- },
		func(m *impl.Message) { m.Ok = !m.Ok }, func(m *impl.Message) { m.Last = !m.Last }, func(m *impl.Message) { m.Data += "x" }, func(m *impl.Message) { m.Data += "\x00\x00" }, func(m *impl.Message) { m.Data = "other" },
		func(m *impl.Message) { m.Conf = []int{1, 3, 4} }, func(m *impl.Message) { m.Conf = []int{2} }, func(m *impl.Message) { m.Entries = append(m.Entries, none(m.Term)) },
	}
	for at := range 4 {
		list = append(list, func(m *impl.Message) {
			if at < len(m.Entries) {
				m.Entries[at] = command(m.Entries[at].Term, "other")
			}
		}, func(m *impl.Message) {
			if at < len(m.Entries) {
				m.Entries[at] = conf(m.Entries[at].Term, "\x01\x04")
			}
		}, func(m *impl.Message) {
			if at+1 < len(m.Entries) {
				m.Entries[at].Term = m.Entries[at+1].Term
				m.Entries[at].Kind, m.Entries[at].Data = 1, ""
			}
		}, func(m *impl.Message) {
			if at < len(m.Entries) {
				m.Entries = slices.Delete(m.Entries, at, at+1)
			}
		})
	}
	return list
}

// numbers around each limit, far off, and right in their lowest bytes
func messageNumbers() []int {
	list := []int{math.MinInt64, math.MinInt64 + 1, math.MinInt64 + 3, -1 << 32, -1<<32 + 1, -256, -255, -128, -100000, -5, -4, -3, -2, -1, 0, 1, 2, 3, 4, 5, 6, 7, 8, 9, 59, 60, 61, 126, 127, 128, 129, 199, 200, 201, 299, 300, 301}
	for kind := range 8 {
		list = append(list, 256+kind, 1<<16+kind, 1<<32+kind, 1<<62+kind)
	}
	return append(list, 16383, 16384, 16385, 99999, 100000, 100001, 100002, 999999, 1000000, 1000001, 1000002, 2097151, 2097152, 999999999, 1000000000, 1000000001, math.MaxInt32, 1<<35, math.MaxInt64-1, math.MaxInt64)
}

// each number of each Kind at and past both its ends
func TestMessageFieldsAtTheirEnds(t *testing.T) {
	for kind := 1; kind <= 6; kind++ {
		empty := impl.Message{Kind: kind, From: 1, To: 2}
		if kind == 5 {
			empty.Conf = []int{1}
		}
		for _, base := range []impl.Message{empty, fullMessage(kind)} {
			least, most := 0, 100000 // of Term and of LogTerm, where entries stand between
			if len(base.Entries) > 0 {
				least, most = 300, 200
			}
			for _, n := range messageNumbers() {
				for _, look := range []struct {
					right  bool
					change func(m *impl.Message)
				}{
					{n >= least && n <= 100000, func(m *impl.Message) { m.Term = n }},
					{n >= 0 && n <= most, func(m *impl.Message) { m.LogTerm = n }},
					{n >= 0 && n <= 1000000, func(m *impl.Message) { m.Index = n }},
					{n >= 0 && n <= 1000000, func(m *impl.Message) { m.Commit = n }},
					{n >= 1 && n <= 4 && n != base.To, func(m *impl.Message) { m.From = n }},
					{n >= 1 && n <= 4 && n != base.From, func(m *impl.Message) { m.To = n }},
				} {
					m := changedMessage(base, look.change)
					if lookAtMessage(t, m) != look.right {
						t.Fatalf("by hand %s is right: %v", tellMessage(m), look.right)
					}
				}
			}
		}
	}
}

// Kinds of which there are none; and of each Kind what another one has
func TestMessageKinds(t *testing.T) {
	for _, base := range rightMessages() {
		for _, kind := range messageNumbers() {
			m := changedMessage(base, func(m *impl.Message) { m.Kind = kind })
			carries := len(base.Entries) > 0 && kind != 3 || base.Kind == 5 && kind != 5
			right := kind >= 1 && kind <= 6 && !carries && (kind != 5 || base.Kind == 5)
			if lookAtMessage(t, m) != right {
				t.Fatalf("by hand %s is right: %v", tellMessage(m), right)
			}
		}
	}
	for kind := range 256 {
		m := impl.Message{Kind: kind, From: 1, To: 2}
		if lookAtMessage(t, m) != (kind >= 1 && kind <= 6 && kind != 5) {
			t.Fatalf("%s is right, or not", tellMessage(m))
		}
	}
}

func TestMessageNodes(t *testing.T) {
	for kind := 1; kind <= 6; kind++ {
		for _, from := range messageNumbers() {
			for _, to := range messageNumbers() {
				m := impl.Message{Kind: kind, From: from, To: to}
				if kind == 5 {
					m.Conf = []int{2}
				}
				right := from >= 1 && from <= 4 && to >= 1 && to <= 4 && from != to
				if got := impl.MessageOk(m); got != right {
					t.Fatalf("MessageOk(%s) = %v", tellMessage(m), got)
				}
				if from >= -1 && from < 8 && to >= -1 && to < 8 && lookAtMessage(t, m) != right {
					t.Fatalf("by hand %s is right: %v", tellMessage(m), right)
				}
			}
		}
	}
}

// how many Entries there may be, of each Kind
func TestMessageEntryCounts(t *testing.T) {
	lists := map[string]func(count int) []impl.Entry{
		"none":     func(count int) []impl.Entry { return slices.Repeat([]impl.Entry{none(5)}, count) },
		"conf":     func(count int) []impl.Entry { return slices.Repeat([]impl.Entry{conf(5, "\x01\x02")}, count) },
		"commands": func(count int) []impl.Entry { return slices.Repeat([]impl.Entry{command(5, "x")}, count) },
		"zero":     func(count int) []impl.Entry { return make([]impl.Entry, count) },
	}
	for kind := 1; kind <= 6; kind++ {
		for what, list := range lists {
			for _, count := range []int{0, 1, 2, 3, 4, 5, 6, 8, 59, 60, 61, 127, 128, 256, 260} {
				m := impl.Message{Kind: kind, From: 1, To: 2, Term: 5, LogTerm: 5, Entries: list(count)}
				if kind == 5 {
					m.Conf, m.Data = []int{1}, "x"
				}
				right := count == 0 || kind == 3 && count <= 4 && what != "zero"
				if lookAtMessage(t, m) != right {
					t.Fatalf("by hand %s is right: %v", tellMessage(m), right)
				}
			}
			wantEncode(t, impl.Message{Kind: kind, From: 1, To: 2, Term: 5, LogTerm: 5, Entries: list(70000)}, "", false)
		}
	}
}

// entries that are not right in each way that EntryOk names, in each place
func TestMessageWrongEntries(t *testing.T) {
	for _, e := range wrongEntries() {
		for count := 1; count <= 4; count++ {
			for at := range count {
				m := impl.Message{Kind: 3, From: 1, To: 2, Term: 100000}
				for range count {
					m.Entries = append(m.Entries, none(max(0, min(e.Term, 100000))))
				}
				acceptOk(t, m)
				m.Entries[at] = e
				// many of them are great: of these each one in one place is enough
				if len(e.Data) > 1000 && at+1 != count {
					continue
				}
				refuseMessage(t, m)
			}
		}
		m := impl.Message{Kind: 3, From: 1, To: 2, Term: 100000, Entries: []impl.Entry{e}}
		if isTellable(m) {
			refuseDecode(t, messagePieces(m).text())
		}
	}
	for _, term := range edgeTerms() {
		for _, e := range rightEntries(term) {
			acceptMessage(t, impl.Message{Kind: 3, From: 1, To: 2, Term: term, LogTerm: term, Entries: []impl.Entry{e}})
		}
	}
}

func acceptOk(t *testing.T, m impl.Message) {
	t.Helper()
	if !impl.MessageOk(m) {
		t.Fatalf("by hand %s is right", tellMessage(m))
	}
}

// Terms that never fall, from LogTerm on, up to Term; and all others
func TestMessageTerms(t *testing.T) {
	message := func(logTerm, term int, terms ...int) impl.Message {
		m := impl.Message{Kind: 3, From: 1, To: 2, Term: term, LogTerm: logTerm}
		for _, n := range terms {
			m.Entries = append(m.Entries, none(n))
		}
		return m
	}
	for _, m := range []impl.Message{
		message(0, 0), message(0, 0, 0), message(0, 0, 0, 0, 0, 0), message(0, 3, 0, 1, 2, 3), message(3, 3, 3, 3, 3, 3), message(2, 9, 2, 2, 9, 9), message(2, 9, 5), message(0, 100000, 100000), message(100000, 100000, 100000, 100000),
		// without any, LogTerm may be above Term
		message(1, 0), message(100000, 0), message(100000, 99999),
	} {
		acceptMessage(t, m)
	}
	for _, m := range []impl.Message{
		// they fall
		message(0, 9, 2, 1), message(0, 9, 1, 2, 1), message(0, 9, 1, 2, 3, 2), message(0, 9, 3, 2, 3, 3), message(0, 9, 1, 0), message(0, 100000, 100000, 99999), message(0, 9, 4, 3, 2, 1),
		// they begin below LogTerm
		message(1, 9, 0), message(3, 9, 2, 3, 3, 3), message(3, 9, 2), message(100000, 100000, 99999), message(9, 9, 1, 2, 3, 9), message(3, 9, 3, 2), message(5, 4, 5), message(5, 4, 4),
		// they go beyond Term
		message(0, 0, 1), message(0, 9, 10), message(0, 9, 1, 2, 3, 10), message(0, 9, 9, 9, 10), message(2, 1, 2), message(0, 99999, 100000), message(0, 3, 2, 3, 4, 5),
	} {
		refuseMessage(t, m)
		refuseDecode(t, messagePieces(m).text())
	}
	rights := 0
	for _, terms := range listsOf([]int{0, 1, 2, 3}, 4) {
		for logTerm := range 4 {
			for term := range 4 {
				if lookAtMessage(t, message(logTerm, term, terms...)) {
					rights++
				}
			}
		}
	}
	// of 0 to 4 numbers that never fall, with one ahead and one behind: 16 with none, else 20, 35, 56 and 84
	if rights != 16+20+35+56+84 {
		t.Errorf("%d are right", rights)
	}
}

// Conf empty, right and not right, of each Kind
func TestMessageConfs(t *testing.T) {
	for kind := 1; kind <= 6; kind++ {
		base := fullMessage(kind)
		for _, none := range [][]int{nil, {}} {
			m := changedMessage(base, func(m *impl.Message) { m.Conf = none })
			if lookAtMessage(t, m) != (kind != 5) {
				t.Fatalf("%s is right, or not", tellMessage(m))
			}
		}
		for _, right := range handConfs() {
			m := changedMessage(base, func(m *impl.Message) { m.Conf = right.conf })
			if lookAtMessage(t, m) != (kind == 5) {
				t.Fatalf("%s is right, or not", tellMessage(m))
			}
			bare := impl.Message{Kind: kind, From: 1, To: 2, Conf: right.conf}
			if lookAtMessage(t, bare) != (kind == 5) {
				t.Fatalf("%s is right, or not", tellMessage(bare))
			}
		}
		for _, wrong := range append(wrongConfs(), make([]int, 70000), slices.Repeat([]int{1, 2}, 35000)) {
			if len(wrong) > 0 {
				refuseMessage(t, changedMessage(base, func(m *impl.Message) { m.Conf = wrong }))
			}
		}
	}
	// byte by byte: of a conf all lists of few numbers
	rights := 0
	for _, list := range listsOf([]int{0, 1, 2, 3, 4, 5}, 5) {
		if lookAtMessage(t, impl.Message{Kind: 5, From: 1, To: 2, Conf: list}) {
			rights++
		}
	}
	if rights != 15 {
		t.Errorf("%d confs are right", rights)
	}
}

// Data of each length, and Last and Ok, of each Kind
func TestMessageData(t *testing.T) {
	for kind := 1; kind <= 6; kind++ {
		base := fullMessage(kind)
		for _, ok := range []bool{false, true} {
			for _, last := range []bool{false, true} {
				for _, length := range []int{0, 1, 2, 30, 59, 60, 61, 62, 63, 64, 120, 127, 128, 255, 256, 316, 640, 641, 16384, 19999, 20000, 20001, 70000} {
					for _, data := range []string{longText(length), strings.Repeat("\x00", length), strings.Repeat("\xff", length)} {
						m := changedMessage(base, func(m *impl.Message) { m.Ok, m.Last, m.Data = ok, last, data })
						right := kind == 5 && length <= 60 || kind != 5 && length == 0 && !last
						if lookAtMessage(t, m) != right {
							t.Fatalf("by hand %s is right: %v", tellMessage(m), right)
						}
					}
				}
			}
		}
	}
	for length := range 61 {
		for n := range 256 {
			data := strings.Repeat(string([]byte{byte(n)}), length)
			text := "\x05\x02\x04\x01\x02\x03\x04\x00\x01\x00\x02\x01\x03" + string([]byte{byte(length)}) + data
			m := impl.Message{Kind: 5, From: 2, To: 4, Term: 1, Index: 2, LogTerm: 3, Commit: 4, Conf: []int{1, 3}, Data: data, Last: true}
			wantEncode(t, m, text, true)
			wantDecode(t, text, m, true)
		}
	}
}

// messages that are not right in one thing alone, of each Kind
func brokenMessages() []impl.Message {
	var list []impl.Message
	for kind := 1; kind <= 6; kind++ {
		for _, change := range []func(m *impl.Message){
			func(m *impl.Message) { m.Kind = 0 }, func(m *impl.Message) { m.Kind = 7 }, func(m *impl.Message) { m.Kind = -1 }, func(m *impl.Message) { m.Kind += 256 }, func(m *impl.Message) { m.Kind += 1 << 32 }, func(m *impl.Message) { m.Kind = -m.Kind },
			func(m *impl.Message) { m.From = 0 }, func(m *impl.Message) { m.From = 5 }, func(m *impl.Message) { m.From = m.To }, func(m *impl.Message) { m.From += 256 }, func(m *impl.Message) { m.From = -2 },
			func(m *impl.Message) { m.To = 0 }, func(m *impl.Message) { m.To = 5 }, func(m *impl.Message) { m.To = m.From }, func(m *impl.Message) { m.To += 256 }, func(m *impl.Message) { m.To = math.MinInt64 },
			func(m *impl.Message) { m.Term = -1 }, func(m *impl.Message) { m.Term = 100001 }, func(m *impl.Message) { m.Term = math.MaxInt64 }, func(m *impl.Message) { m.Term += 1 << 32 },
			func(m *impl.Message) { m.LogTerm = -1 }, func(m *impl.Message) { m.LogTerm = 100001 }, func(m *impl.Message) { m.LogTerm = math.MinInt64 }, func(m *impl.Message) { m.LogTerm = 1000000001 },
			func(m *impl.Message) { m.Index = -1 }, func(m *impl.Message) { m.Index = 1000001 }, func(m *impl.Message) { m.Index = math.MaxInt64 }, func(m *impl.Message) { m.Index = 1000000000 },
			func(m *impl.Message) { m.Commit = -1 }, func(m *impl.Message) { m.Commit = 1000001 }, func(m *impl.Message) { m.Commit = math.MinInt64 }, func(m *impl.Message) { m.Commit = 1000000001 },
			func(m *impl.Message) {
				m.Entries = append(m.Entries, none(300), none(300), none(300), none(300), none(300))
			}, func(m *impl.Message) { m.Entries = []impl.Entry{{}} }, func(m *impl.Message) { m.Entries = []impl.Entry{{Term: 250, Kind: 4}} },
			func(m *impl.Message) { m.Entries = []impl.Entry{none(199)} }, func(m *impl.Message) { m.Entries = []impl.Entry{none(301)} }, func(m *impl.Message) { m.Entries = []impl.Entry{none(250), none(249)} }, func(m *impl.Message) { m.Entries = []impl.Entry{command(250, longText(641))} },
			func(m *impl.Message) { m.Conf = []int{2, 1} }, func(m *impl.Message) { m.Conf = []int{1, 5} }, func(m *impl.Message) { m.Conf = []int{0} }, func(m *impl.Message) { m.Conf = []int{257} }, func(m *impl.Message) { m.Conf = []int{1, 2, 3, 4, 4} },
			func(m *impl.Message) { m.Data = longText(61) }, func(m *impl.Message) { m.Data = longText(20001) },
		} {
			list = append(list, changedMessage(fullMessage(kind), change))
		}
		if kind == 5 {
			list = append(list, changedMessage(fullMessage(kind), func(m *impl.Message) { m.Conf = nil }))
		} else {
			list = append(list, changedMessage(fullMessage(kind), func(m *impl.Message) { m.Conf = []int{1} }),
				changedMessage(fullMessage(kind), func(m *impl.Message) { m.Data = "x" }), changedMessage(fullMessage(kind), func(m *impl.Message) { m.Data = "\x00" }),
				changedMessage(fullMessage(kind), func(m *impl.Message) { m.Last = true }))
		}
		if kind != 3 {
			list = append(list, changedMessage(fullMessage(kind), func(m *impl.Message) { m.Entries = []impl.Entry{none(250)} }),
				changedMessage(fullMessage(kind), func(m *impl.Message) { m.Entries = fullMessage(3).Entries }))
		}
	}
	return append(list, impl.Message{})
}

func TestBrokenMessages(t *testing.T) {
	for _, m := range brokenMessages() {
		refuseMessage(t, m)
		if isTellable(m) {
			refuseDecode(t, messagePieces(m).text())
		}
	}
}

// all messages of few values in each field, right and not
func TestMessagesByTheWords(t *testing.T) {
	entries := [][]impl.Entry{nil, {none(1)}, {command(1, "x"), none(2)}, {none(2), none(1)}, {none(0)}, {conf(1, "\x02\x01")}, {none(1), none(1), none(1), none(1)}, {none(1), none(1), none(1), none(1), none(1)}}
	confs := [][]int{nil, {}, {1, 2}, {2, 1}, {5}}
	datas := []string{"", "x", longText(60), longText(61)}
	rights := 0
	for kind := -1; kind < 8; kind++ {
		for nodes := range 4 {
			for terms := range 4 {
				for _, list := range entries {
					for _, conf := range confs {
						for _, data := range datas {
							for flags := range 4 {
								m := impl.Message{Kind: kind, From: []int{1, 2, 0, 4}[nodes], To: []int{2, 2, 1, 3}[nodes], Term: []int{2, 1, 0, 2}[terms], LogTerm: []int{1, 1, 3, 2}[terms], Index: 7, Commit: 8, Ok: flags%2 == 1, Entries: list, Conf: conf, Data: data, Last: flags > 1}
								if lookAtMessage(t, m) {
									rights++
								}
							}
						}
					}
				}
			}
		}
	}
	// with two From and To, two empty confs, and Ok or not: of four Kinds with each pair of terms; of AskAppend with none, one or more entries and those of the terms that hold them; of AskInstall with one conf, three Data, and Last or not
	if want := 4*2*2*2*4 + 2*2*2*(4+2+1+2) + 2*4*3*4; rights != want {
		t.Errorf("%d are right, and not %d", rights, want)
	}
}

func TestDecodeCutAnywhere(t *testing.T) {
	refuseDecode(t, "")
	for _, m := range rightMessages() {
		text, ok := impl.Encode(m)
		if !ok || !lookAtDecode(t, text) {
			t.Fatalf("%s has no text", tellMessage(m))
		}
		for at := range text {
			refuseDecode(t, text[:at])
			// without its first bytes
			lookAtDecode(t, text[at+1:])
		}
	}
}

func TestDecodeBytesBehind(t *testing.T) {
	for _, m := range rightMessages() {
		text, _ := impl.Encode(m)
		for n := range 256 {
			refuseDecode(t, text+string([]byte{byte(n)}))
			lookAtDecode(t, string([]byte{byte(n)})+text)
		}
		for _, behind := range []string{"\x00\x00", "\n", " ", "\x80\x00", text, longText(300), strings.Repeat("\x00", 20001)} {
			refuseDecode(t, text+behind)
			lookAtDecode(t, behind+text)
		}
	}
}

// each byte turned in each way
func TestDecodeTurnedBytes(t *testing.T) {
	rights := 0
	for _, m := range rightMessages() {
		text, _ := impl.Encode(m)
		for at := range text {
			for n := range 256 {
				// of a long text some are enough
				if len(text) > 200 && n > 8 && n%32 > 2 && n < 250 {
					continue
				}
				if other := text[:at] + string([]byte{byte(n)}) + text[at+1:]; lookAtDecode(t, other) && other != text {
					rights++
				}
			}
		}
	}
	if rights < 3000 {
		t.Errorf("%d turned texts are read", rights)
	}
}

// a count of Entries that is not how many there are
func TestDecodeCounts(t *testing.T) {
	for _, m := range rightMessages() {
		p := messagePieces(m)
		if p[countPlace].text != plainVar(len(m.Entries)) {
			t.Fatalf("in the place of the count of %s stands %q", tellMessage(m), p[countPlace].text)
		}
		for _, count := range []int{0, 1, 2, 3, 4, 5, 6, 8, 60, 61, 127, 128, 255, 256, 257, 20000, 1 << 20, 1000000000, 1000000001, 1 << 32} {
			text := p.with(countPlace, plainVar(count))
			if count == len(m.Entries) {
				wantDecode(t, text, m, true)
			} else {
				refuseDecode(t, text)
			}
		}
		for at, form := range longerForms(p[countPlace].text) {
			if at != 6 {
				refuseDecode(t, p.with(countPlace, form))
			}
		}
	}
	// just as many as are told, and more than may be
	for _, e := range []impl.Entry{none(0), conf(0, "\x01"), command(0, ""), command(0, longText(640))} {
		for _, count := range []int{0, 1, 2, 3, 4, 5, 6, 30, 127, 128, 260} {
			m := impl.Message{Kind: 3, From: 1, To: 2, Entries: slices.Repeat([]impl.Entry{e}, count)}
			if lookAtDecode(t, messagePieces(m).text()) != (count <= 4) {
				t.Fatalf("%d entries are read, or not", count)
			}
		}
	}
	// many, of which each may be nothing at all
	for _, one := range []string{"\x00", "\x01", "\x04E\x01\x00\x01", "\x7f", "\x80", "\xff"} {
		for _, count := range []int{0, 1, 4, 5, 128, 20000, 1000000000} {
			for _, length := range []int{1, 100, 19999, 20000, 20001, 1 << 20} {
				refuseDecode(t, "\x03\x01\x02\x00\x00\x00\x00\x00\x00"+plainVar(count)+strings.Repeat(one, length/len(one)+3))
			}
		}
	}
}

// forms of each number that VarText does not give, and numbers past their limits
func TestDecodeLongerNumbers(t *testing.T) {
	for _, m := range rightMessages() {
		p := messagePieces(m)
		looked := 0
		for place, one := range p {
			if one.kind != "number" && one.kind != "length" {
				continue
			}
			looked++
			for at, form := range longerForms(one.text) {
				// but for the one that is merely cut all are refused
				if at == 6 {
					lookAtDecode(t, p.with(place, form))
				} else {
					refuseDecode(t, p.with(place, form))
				}
			}
		}
		if looked != 7+len(m.Entries) {
			t.Fatalf("%d numbers on %s", looked, tellMessage(m))
		}
		for _, number := range []int{100001, 1000001, 2097152, 1000000000} {
			refuseDecode(t, p.with(termPlace, plainVar(number)))
			refuseDecode(t, p.with(logTermPlace, plainVar(number)))
		}
		for _, number := range []int{1000001, 1000002, 2097152, 1000000000} {
			refuseDecode(t, p.with(indexPlace, plainVar(number)))
			refuseDecode(t, p.with(commitPlace, plainVar(number)))
		}
	}
}

// each byte in the places of Ok and of Last
func TestDecodeFlags(t *testing.T) {
	for _, m := range rightMessages() {
		p := messagePieces(m)
		for n := range 256 {
			flag := string([]byte{byte(n)})
			if n > 1 {
				refuseDecode(t, p.with(okPlace, flag))
				refuseDecode(t, p.with(lastPlace, flag))
				continue
			}
			wantDecode(t, p.with(okPlace, flag), changedMessage(m, func(m *impl.Message) { m.Ok = n == 1 }), true)
			if n == 0 || m.Kind == 5 {
				wantDecode(t, p.with(lastPlace, flag), changedMessage(m, func(m *impl.Message) { m.Last = n == 1 }), true)
			} else {
				refuseDecode(t, p.with(lastPlace, flag))
			}
		}
	}
}

// what stands in the place of an entry's text
func TestDecodeEntries(t *testing.T) {
	for count := 1; count <= 4; count++ {
		m := impl.Message{Kind: 3, From: 1, To: 2, Term: 5, LogTerm: 5, Entries: slices.Repeat([]impl.Entry{none(5)}, count)}
		p := messagePieces(m)
		for at := range count {
			place := entryPlace(at)
			if p[place].text != "E\x01\x05\x01" {
				t.Fatalf("in the place of entry %d stands %q", at, p[place].text)
			}
			for _, e := range rightEntries(5) {
				text, _ := impl.EntryText(1, e)
				wantDecode(t, p.withShort(place, text), changedMessage(m, func(m *impl.Message) { m.Entries[at] = e }), true)
				// cut, and with bytes behind its end, within its length or beyond it
				for cut := range min(len(text), 8) {
					lookAtDecode(t, p.withShort(place, text[:cut]))
					lookAtDecode(t, p.with(place, text[:cut]))
				}
				for _, behind := range []string{"\x00", "\x01", "x", "\xff", text} {
					lookAtDecode(t, p.with(place, text+behind))
					if read := lookAtDecode(t, p.withShort(place, text+behind)); read && e.Kind == 1 {
						t.Fatalf("an EntryNone with %q behind it is read", behind)
					}
				}
			}
			for _, index := range edgeIndexes() {
				text, _ := impl.EntryText(index, none(5))
				if lookAtDecode(t, p.withShort(place, text)) != (index == 1) {
					t.Fatalf("an entry with the index %d is read, or not", index)
				}
				other, _ := impl.EntryText(index, command(5, "x"))
				if lookAtDecode(t, p.withShort(place, other)) != (index == 1) {
					t.Fatalf("a command with the index %d is read, or not", index)
				}
			}
			// its own index is no place among the others
			text, _ := impl.EntryText(m.Index+1+at, none(5))
			if lookAtDecode(t, p.withShort(place, text)) != (at == 0) {
				t.Fatalf("entry %d is read with its own index, or not", at)
			}
			for _, text := range []string{"", "E", "E\x01", "E\x01\x05", "e\x01\x05\x01", "\x01\x05\x01", "E\x00\x05\x01", "E\x81\x00\x05\x01", "E\x01\x85\x00\x01", "E\x01\x05\x00", "E\x01\x05\x04", "E\x01\x05\xff", "E\x01\x05\x01\x00", "E\x01\x05\x02", "E\x01\x05\x02\x02\x01", "E\x01\x05\x02\x05", "E\x01\x05\x02\x00", "E\x01\x05\x01E\x01\x05\x01",
				"E\x01\x04\x01", "E\x01\x06\x01", "E\x01\xa1\x8d\x06\x01", "E\x01\x80\x94\xeb\xdc\x03\x01", "E\x01\x05\x03" + longText(641), longText(300), longText(20000), longText(20001), strings.Repeat("E", 700), "\x04E\x01\x05\x01"} {
				refuseDecode(t, p.withShort(place, text))
			}
			for _, length := range []int{0, 1, 2, 3, 5, 6, 7, 8, 127, 128, 20000, 20001, 1000000000} {
				refuseDecode(t, p.with(place-1, plainVar(length)))
			}
		}
	}
	// an entry with a Kind that has none
	for _, kind := range []int{1, 2, 4, 5, 6} {
		m := fullMessage(kind)
		m.Entries = []impl.Entry{none(250)}
		refuseDecode(t, messagePieces(m).text())
	}
}

// what stands in the place of a conf's bytes
func TestDecodeConfs(t *testing.T) {
	texts := []string{"", "\x00", "\x05", "\xff", "1", "\x81", "\x01\x01", "\x02\x01", "\x01\x03\x02", "\x00\x01", "\x01\x00", "\x01\x05", "\x01\x02\x03\x04\x04", "\x01\x02\x03\x04\x05", "\x01\x02\x03\x04\x00", "\x01\x02\x03\x84", "\x01\x01\x02", "\x02\x01\x02", allBytes(), longText(300), longText(20000), longText(20001)}
	for kind := 1; kind <= 6; kind++ {
		m := fullMessage(kind)
		p := messagePieces(m)
		place := confPlace(m)
		for _, right := range handConfs() {
			if lookAtDecode(t, p.withShort(place, right.text)) != (kind == 5) {
				t.Fatalf("of Kind %d the conf %v is read, or not", kind, right.conf)
			}
		}
		for _, text := range texts {
			if read := lookAtDecode(t, p.withShort(place, text)); read != (text == "" && kind != 5) {
				t.Fatalf("of Kind %d %.300q is read as a conf, or not", kind, text)
			}
		}
		for _, list := range listsOf([]int{0, 1, 2, 3, 4, 5, 255}, 4) {
			text := ""
			for _, n := range list {
				text += string([]byte{byte(n)})
			}
			lookAtDecode(t, p.withShort(place, text))
		}
		for _, length := range []int{0, 1, 2, 3, 4, 5, 6, 60, 64, 65, 66, 127, 128, 20000, 20001, 1000000000} {
			if text := p.with(place-1, plainVar(length)); length != len(m.Conf) {
				refuseDecode(t, text)
			} else {
				wantDecode(t, text, m, true)
			}
		}
		// and of Data
		place = chunkPlace(m)
		for _, length := range []int{0, 1, 2, 59, 60, 61, 127, 128, 256, 640, 20000, 20001} {
			if lookAtDecode(t, p.withShort(place, longText(length))) != (length == 0 || kind == 5 && length <= 60) {
				t.Fatalf("of Kind %d Data of %d bytes are read, or not", kind, length)
			}
			if length != len(m.Data) {
				refuseDecode(t, p.with(place-1, plainVar(length)))
			}
		}
	}
}

// the longest message, and texts beyond MaxText of whatever they tell
func TestDecodeLongTexts(t *testing.T) {
	longest := impl.Message{Kind: 3, From: 1, To: 2, Term: 100000, Index: 1000000, LogTerm: 100000, Commit: 1000000, Entries: slices.Repeat([]impl.Entry{command(100000, longText(640))}, 4)}
	acceptMessage(t, longest)
	text, _ := impl.Encode(longest)
	if want := 3 + 12 + 2 + 1 + 4*(2+1+1+3+1+640) + 2; len(text) != want {
		t.Errorf("the longest message has %d bytes, and not %d", len(text), want)
	}
	for _, length := range []int{61, 641, 16384, 19980, 19984, 19985, 19986, 19987, 20000, 20001, 70000} {
		m := fullMessage(5)
		m.Data = longText(length)
		refuseMessage(t, m)
		refuseDecode(t, messagePieces(m).text())
		m = fullMessage(3)
		m.Entries[0] = command(200, longText(max(641, length)))
		refuseMessage(t, m)
		refuseDecode(t, messagePieces(m).text())
	}
	for _, m := range rightMessages() {
		text, _ := impl.Encode(m)
		for _, length := range []int{19999, 20000, 20001, 70000} {
			refuseDecode(t, text+strings.Repeat("\x00", length-len(text)))
			refuseDecode(t, strings.Repeat(text, length/len(text)+2))
		}
	}
	for _, one := range []string{"\x00", "\x01", "\x02", "\x03", "\x05", "\x7f", "\x80", "\xff", "\x03\x01\x02"} {
		for _, length := range []int{1, 2, 3, 11, 12, 13, 100, 20000, 20001, 1 << 20} {
			refuseDecode(t, strings.Repeat(one, length))
		}
	}
}

// promise 18: bytes that are read as a message are just the bytes that would be written of it
func TestDrawnMessageTexts(t *testing.T) {
	d := draw(1018)
	rights := 0
	for at := range 40000 {
		first, _ := plainEncode(drawnMessage(&d, 1+at%6))
		second, _ := plainEncode(drawnMessage(&d, 1+d.below(6)))
		text := torn(&d, first, second)
		for range d.below(3) {
			text = torn(&d, text, first)
		}
		if lookAtDecode(t, text) {
			rights++
		}
	}
	if rights < 2000 {
		t.Errorf("%d texts are read", rights)
	}
	// of few bytes, most of them such as a message may have in their places
	rights = 0
	for range 60000 {
		bytes := []byte{byte(d.below(7)), byte(1 + d.below(4)), byte(1 + d.below(4))}
		for range 4 {
			bytes = append(bytes, []byte{0, 1, 2, 3, 127, 128, 255, byte(d.below(256))}[d.below(d.below(8)+1)])
		}
		bytes = append(bytes, byte(d.below(2)), byte(d.below(d.below(2)+1)))
		for range 3 + d.below(d.below(6)+1) {
			bytes = append(bytes, []byte{0, 0, 0, 1, 1, 2, 4, 'E', 127, 128, 255, byte(d.below(256))}[d.below(d.below(12)+1)])
		}
		if lookAtDecode(t, string(bytes)) {
			rights++
		}
	}
	if rights < 1000 {
		t.Errorf("%d texts of few bytes are read", rights)
	}
}

// messages of any fields
func strangeMessage(d *draw) impl.Message {
	number := func() int {
		if d.below(3) == 0 {
			return someNumbers()[d.below(len(someNumbers()))]
		}
		return d.below(6)
	}
	m := impl.Message{Kind: number(), From: number(), To: number(), Term: number(), Index: number(), LogTerm: number(), Commit: number(), Ok: d.below(2) == 0, Last: d.below(4) == 0}
	for range []int{0, 0, 1, 2, 4, 5, 9}[d.below(7)] {
		e := impl.Entry{Term: number(), Kind: number(), Data: someData()[d.below(30)]}
		if d.below(2) == 0 {
			e = drawnEntry(d, d.below(6))
		}
		m.Entries = append(m.Entries, e)
	}
	switch d.below(4) {
	case 0:
		m.Conf = someWrongConfs()[d.below(len(someWrongConfs()))]
	case 1:
		m.Conf = handConfs()[d.below(15)].conf
	}
	if d.below(3) == 0 {
		m.Data = longText([]int{0, 1, 59, 60, 61, 20001}[d.below(6)])
	}
	return m
}

func TestStrangeMessages(t *testing.T) {
	d := draw(2018)
	rights := 0
	for at := range 60000 {
		m := strangeMessage(&d)
		if at%2 == 0 {
			// right but for one or two of its fields, or none
			other := m
			m = drawnMessage(&d, 1+at/2%6)
			for range d.below(3) {
				fields := []func(){func() { m.Kind = other.Kind }, func() { m.From = other.From }, func() { m.To = other.To }, func() { m.Term = other.Term }, func() { m.Index = other.Index }, func() { m.LogTerm = other.LogTerm }, func() { m.Commit = other.Commit }, func() { m.Entries = other.Entries }, func() { m.Conf = other.Conf }, func() { m.Data = other.Data }, func() { m.Last = other.Last }}
				fields[d.below(len(fields))]()
			}
		}
		if lookAtMessage(t, m) {
			rights++
		}
	}
	if rights < 10000 || rights > 50000 {
		t.Errorf("%d of 60000 are right", rights)
	}
}

// an empty list and nil are the same value
func TestMessagesOfEmptyLists(t *testing.T) {
	for _, from := range append(rightMessages(), brokenMessages()...) {
		if len(from.Entries) > 0 && len(from.Conf) > 0 {
			continue
		}
		want, right := plainEncode(from)
		for way := range 4 {
			m := copyMessage(from)
			if len(m.Entries) == 0 {
				m.Entries = [][]impl.Entry{nil, {}, nil, make([]impl.Entry, 0, 9)}[way]
			}
			if len(m.Conf) == 0 {
				m.Conf = [][]int{nil, {}, make([]int, 0, 9), nil}[way]
			}
			wantEncode(t, m, want, right)
		}
	}
}

// a message with room behind its lists, and a look at whether all of it is as it was
func roomyMessage(from impl.Message) (impl.Message, func() bool) {
	m := from
	list, listUntouched := roomyLog(logOf(0, 0, from.Entries...))
	conf, confUntouched := roomyNumbers(from.Conf)
	m.Entries, m.Conf = list.Entries, conf
	return m, func() bool { return listUntouched() && confUntouched() && sameMessage(m, from) }
}

func scribbleMessage(m impl.Message) {
	scribbleLog(logOf(0, 0, m.Entries...))
	scribbleConf(m.Conf)
}

func TestMessagesWriteIntoNothing(t *testing.T) {
	for _, from := range append(rightMessages(), brokenMessages()...) {
		m, untouched := roomyMessage(from)
		want, right := plainEncode(from)
		wantEncode(t, m, want, right)
		if !untouched() {
			t.Fatalf("something is written into %s", tellMessage(from))
		}
		// nothing of it is kept
		scribbleMessage(m)
		wantEncode(t, from, want, right)
		if right {
			wantDecode(t, want, from, true)
		}
	}
}

func textsOfMessage(m impl.Message) []string {
	texts := []string{m.Data}
	for _, e := range m.Entries {
		texts = append(texts, e.Data)
	}
	return texts
}

func TestMessagesReadAreNewMemory(t *testing.T) {
	for _, from := range rightMessages() {
		from.Data = strings.Clone(from.Data)
		text, _ := impl.Encode(from)
		again, _ := impl.Encode(from)
		for _, s := range append(textsOfMessage(from), again) {
			if sharesBytes(text, s) {
				t.Fatalf("the text of %s has bytes of it, or of another answer", tellMessage(from))
			}
		}
		first, _ := impl.Decode(text)
		second, _ := impl.Decode(text)
		mine := textsOfMessage(first)
		for at, s := range mine {
			for _, other := range slices.Concat([]string{text}, mine[:at], textsOfMessage(second)) {
				// a text of one byte may be the library's own, whoever asks for it
				if len(s) > 1 && sharesBytes(s, other) {
					t.Fatalf("%q of what is read of %.900q has bytes of it, or of another answer", s, text)
				}
			}
		}
		// no list reaches into another one, nor into the room behind it
		_ = append(first.Entries, none(-7), none(-7), none(-7), none(-7))
		_ = append(first.Conf, -7, -7, -7, -7)
		if !sameMessage(first, from) || !sameMessage(second, from) {
			t.Fatalf("two lists of what is read of %.900q share the room behind them", text)
		}
		scribbleMessage(first)
		if !sameMessage(second, from) {
			t.Fatalf("what is read of %.900q shares memory with another answer", text)
		}
		wantDecode(t, text, from, true)
	}
	// beside a false, too, nothing is shared
	for range 2 {
		m, ok := impl.Decode("\x05\x01\x02\x00\x00\x00\x00\x00\x00\x00\x01\x01\x3d" + longText(61))
		if ok || !sameMessage(m, impl.Message{}) {
			t.Fatalf("what is no message is read as %s, %v", tellMessage(m), ok)
		}
		_ = append(m.Entries, none(1), none(2))
		_ = append(m.Conf, 1, 2, 3)
	}
}

// what one call answers has no part in what the next one does, in whichever order they come
func TestMessagesKeepNothing(t *testing.T) {
	messages := append(rightMessages(), brokenMessages()...)
	for round := range 3 {
		for at := range messages {
			m := messages[(at*7+round*3)%len(messages)]
			other := messages[(at+round)%len(messages)]
			text := messagePieces(other).text()
			lookAtDecode(t, text)
			lookAtMessage(t, m)
			lookAtDecode(t, text[:len(text)/2])
			lookAtMessage(t, other)
			lookAtDecode(t, messagePieces(m).text())
		}
	}
}
