package tests

import (
	"fmt"
	"math"
	"math/big"
	"slices"
	"strings"

	"testing"

	"loop.example/g00188/impl"
)

// the index and the term of a right log's last entry
func plainLast(l impl.Log) (int, int) {
	last := l.Start + len(l.Entries)
	return last, plainTerm(l, last)
}

// the chapter's words done anew, for any index and any Start, whether the node is right or not
func plainConfAt(n impl.Node, index int) []int {
	held := n.Conf
	for at, e := range n.Log.Entries {
		behind := new(big.Int).Add(big.NewInt(int64(n.Log.Start)), big.NewInt(int64(at+1)))
		if e.Kind == 2 && behind.Cmp(big.NewInt(int64(index))) <= 0 {
			held, _ = plainReadConf(e.Data)
		}
	}
	return slices.Clone(held)
}

func plainConfOf(n impl.Node) []int {
	held := n.Conf
	for _, e := range n.Log.Entries {
		if e.Kind == 2 {
			held, _ = plainReadConf(e.Data)
		}
	}
	return slices.Clone(held)
}

// the index of the last EntryConf of a right log, 0 without one
func plainLastConf(l impl.Log) int {
	last := 0
	for at, e := range l.Entries {
		if e.Kind == 2 {
			last = l.Start + at + 1
		}
	}
	return last
}

func plainOthers(n impl.Node) []int {
	var list []int
	for _, id := range plainConfOf(n) {
		if id != n.Id {
			list = append(list, id)
		}
	}
	return list
}

func plainNodeOk(n impl.Node) bool {
	within := func(n, first, last int) bool { return first <= n && n <= last }
	_, confOk := plainConfText(n.Conf)
	if !confOk || !plainLogOk(n.Log) {
		return false
	}
	last, term := plainLast(n.Log)
	if !within(n.Id, 1, 4) || !within(n.Term, term, 100000) || !within(n.Vote, 0, 4) || !within(n.Lead, 0, 4) || !within(n.Role, 0, 2) {
		return false
	}
	if !within(n.Commit, n.Log.Start, last) || !within(n.Clock, 0, 20) || !within(n.Limit, 1, 20) {
		return false
	}
	for at, v := range n.Votes {
		if n.Role != 1 || !within(v, 1, 4) || at > 0 && n.Votes[at-1] >= v {
			return false
		}
	}
	if n.Role != 2 {
		return len(n.Peers) == 0
	}
	var ids []int
	for _, p := range n.Peers {
		ids = append(ids, p.Id)
		if !within(p.Next, 1, last+1) || !within(p.Match, 0, p.Next-1) || !within(p.Sent, 0, 20000) {
			return false
		}
	}
	return slices.Equal(ids, plainOthers(n))
}

func plainNodeNew(id int, conf []int) (impl.Node, bool) {
	n := impl.Node{Id: id, Conf: slices.Clone(conf), Limit: 20}
	if !plainNodeOk(n) {
		return impl.Node{}, false
	}
	return n, true
}

// what a leader sends to a peer of it
func plainSend(n impl.Node, p impl.Peer) impl.Message {
	m := impl.Message{From: n.Id, To: p.Id, Term: n.Term}
	if p.Next <= n.Log.Start {
		m.Kind, m.Index, m.LogTerm, m.Conf, m.Commit = 5, n.Log.Start, n.Log.StartTerm, slices.Clone(n.Conf), p.Sent
		return m
	}
	m.Kind, m.Index, m.LogTerm, m.Commit = 3, p.Next-1, plainTerm(n.Log, p.Next-1), n.Commit
	for index := p.Next; index < p.Next+4; index++ {
		if e, ok := plainEntryAt(n.Log, index); ok {
			m.Entries = append(m.Entries, e)
		}
	}
	return m
}

func plainSendAll(n impl.Node) []impl.Message {
	var list []impl.Message
	for _, p := range n.Peers {
		list = append(list, plainSend(n, p))
	}
	return list
}

// how far a leader's Commit goes on, and whether it steps back by that
func plainCommit(n *impl.Node) {
	last, _ := plainLast(n.Log)
	nodes := plainConfOf(*n)
	best := n.Commit
	for index := n.Commit + 1; index <= last; index++ {
		have := []int{n.Id}
		for _, p := range n.Peers {
			if p.Match >= index {
				have = append(have, p.Id)
			}
		}
		if plainTerm(n.Log, index) == n.Term && plainMost(nodes, have) {
			best = index
		}
	}
	n.Commit = best
	if !slices.Contains(nodes, n.Id) && plainLastConf(n.Log) <= n.Commit {
		n.Role, n.Lead, n.Peers = 0, 0, nil
	}
}

// the peers that a leader has by its conf, each new one with this Next
func plainMeet(n *impl.Node, next int) {
	var list []impl.Peer
	for _, id := range plainOthers(*n) {
		p := impl.Peer{Id: id, Next: next}
		for _, old := range n.Peers {
			if old.Id == id {
				p = old
			}
		}
		list = append(list, p)
	}
	n.Peers = list
}

func plainLead(n *impl.Node) []impl.Message {
	last, _ := plainLast(n.Log)
	n.Role, n.Lead, n.Votes, n.Peers = 2, n.Id, nil, nil
	if len(n.Log.Entries) < 60 && last+1 <= 1000000 {
		n.Log.Entries = append(slices.Clone(n.Log.Entries), impl.Entry{Term: n.Term, Kind: 1})
	}
	plainMeet(n, last+1)
	plainCommit(n)
	return plainSendAll(*n)
}

func plainTick(n impl.Node, limit int) (impl.Node, []impl.Message, bool) {
	if !plainNodeOk(n) || limit < 1 || limit > 20 {
		return impl.Node{}, nil, false
	}
	n = copyNode(n)
	if n.Role == 2 {
		return n, plainSendAll(n), true
	}
	n.Clock++
	if n.Clock < n.Limit {
		return n, nil, true
	}
	n.Clock, n.Limit = 0, limit
	if !slices.Contains(plainConfOf(n), n.Id) || n.Term == 100000 {
		return n, nil, true
	}
	n.Term, n.Vote, n.Role, n.Lead, n.Votes = n.Term+1, n.Id, 1, 0, []int{n.Id}
	if len(plainConfOf(n)) == 1 {
		return n, plainLead(&n), true
	}
	var list []impl.Message
	last, term := plainLast(n.Log)
	for _, id := range plainOthers(n) {
		list = append(list, impl.Message{Kind: 1, From: n.Id, To: id, Term: n.Term, Index: last, LogTerm: term})
	}
	return n, list, true
}

func plainReceive(n impl.Node, m impl.Message) (impl.Node, []impl.Message, bool) {
	if !plainNodeOk(n) || !plainMessageOk(m) || m.To != n.Id {
		return impl.Node{}, nil, false
	}
	n = copyNode(n)
	if m.Term > n.Term {
		n.Term, n.Vote, n.Role, n.Lead, n.Votes, n.Peers = m.Term, 0, 0, 0, nil, nil
	}
	list := plainHear(&n, m)
	return n, list, true
}

func plainHear(n *impl.Node, m impl.Message) []impl.Message {
	last, lastTerm := plainLast(n.Log)
	reply := impl.Message{Kind: m.Kind + 1, From: n.Id, To: m.From, Term: n.Term}
	switch m.Kind {
	case 1:
		isBehind := m.LogTerm < lastTerm || m.LogTerm == lastTerm && m.Index < last
		reply.Ok = m.Term == n.Term && (n.Vote == 0 || n.Vote == m.From) && !isBehind
		if reply.Ok {
			n.Vote, n.Clock = m.From, 0
		}
		return []impl.Message{reply}
	case 2:
		if m.Ok && m.Term == n.Term && n.Role == 1 {
			n.Votes = slices.Compact(slices.Sorted(slices.Values(append(slices.Clone(n.Votes), m.From))))
			if plainMost(plainConfOf(*n), n.Votes) {
				return plainLead(n)
			}
		}
		return nil
	}
	if m.Kind%2 == 0 {
		return plainHearReply(n, m)
	}
	if m.Term < n.Term {
		return []impl.Message{reply}[:(5-m.Kind)/2]
	}
	n.Role, n.Lead, n.Clock, n.Votes, n.Peers = 0, m.From, 0, nil, nil
	if m.Kind == 5 {
		return nil
	}
	plainTake(n, m, &reply)
	return []impl.Message{reply}
}

// entries that come from a leader
func plainTake(n *impl.Node, m impl.Message, reply *impl.Message) {
	last, _ := plainLast(n.Log)
	list := m.Entries
	for m.Index < n.Log.Start && len(list) > 0 {
		list = list[1:]
		m.Index++
		m.LogTerm = n.Log.StartTerm
	}
	if m.Index < n.Log.Start {
		m.Index, m.LogTerm = n.Log.Start, n.Log.StartTerm
	}
	if plainTerm(n.Log, m.Index) != m.LogTerm {
		reply.Index = min(max(m.Index-1, 0), last)
		return
	}
	log := n.Log
	for at, e := range list {
		index := m.Index + 1 + at
		if plainTerm(log, index) == e.Term {
			continue
		}
		put, ok := plainPut(log, index, e)
		if index <= n.Commit || !ok {
			reply.Index = last
			return
		}
		log = put
	}
	n.Log = log
	reply.Ok, reply.Index = true, m.Index+len(list)
	n.Commit = max(n.Commit, min(m.Commit, reply.Index))
}

// TellAppend and TellInstall
func plainHearReply(n *impl.Node, m impl.Message) []impl.Message {
	at := slices.IndexFunc(n.Peers, func(p impl.Peer) bool { return p.Id == m.From })
	if m.Term != n.Term || n.Role != 2 || at < 0 {
		return nil
	}
	last, _ := plainLast(n.Log)
	p := &n.Peers[at]
	if !m.Ok {
		if m.Kind == 4 {
			p.Next = min(p.Next, max(m.Index+1, p.Match+1))
		} else if p.Sent = 0; m.Index == n.Log.Start && m.Commit <= 20000 {
			p.Sent = m.Commit
		}
		return []impl.Message{plainSend(*n, *p)}
	}
	if m.Kind == 6 {
		p.Sent = 0
	}
	p.Match = max(p.Match, min(m.Index, last))
	p.Next = p.Match + 1
	plainCommit(n)
	if n.Role != 2 || n.Peers[at].Next > last {
		return nil
	}
	return []impl.Message{plainSend(*n, n.Peers[at])}
}

func plainPropose(n impl.Node, kind int, data string) (impl.Node, []impl.Message, int, bool) {
	e := impl.Entry{Term: n.Term, Kind: kind, Data: data}
	if !plainNodeOk(n) || n.Role != 2 || !plainEntryOk(e) || len(n.Log.Entries) == 60 || n.Log.Start+len(n.Log.Entries) == 1000000 {
		return impl.Node{}, nil, 0, false
	}
	last, _ := plainLast(n.Log)
	if kind == 2 {
		next, _ := plainReadConf(data)
		more := slices.DeleteFunc(slices.Clone(next), func(id int) bool { return slices.Contains(plainConfOf(n), id) })
		less := slices.DeleteFunc(plainConfOf(n), func(id int) bool { return slices.Contains(next, id) })
		if plainTerm(n.Log, n.Commit) != n.Term || plainLastConf(n.Log) > n.Commit || len(more)+len(less) != 1 {
			return impl.Node{}, nil, 0, false
		}
	}
	n = copyNode(n)
	n.Log.Entries = append(n.Log.Entries, e)
	plainMeet(&n, last+1)
	plainCommit(&n)
	return n, plainSendAll(n), last + 1, true
}

func plainSettle(n impl.Node, index int) (impl.Node, bool) {
	if !plainNodeOk(n) || index < n.Log.Start || index > n.Commit {
		return impl.Node{}, false
	}
	settled := copyNode(n)
	settled.Conf = plainConfAt(n, index)
	settled.Log = plainBehind(n.Log, index, plainTerm(n.Log, index))
	return settled, true
}

func copyNode(n impl.Node) impl.Node {
	n.Conf, n.Log, n.Votes, n.Peers = slices.Clone(n.Conf), copyLog(n.Log), slices.Clone(n.Votes), slices.Clone(n.Peers)
	return n
}

func sameNode(a, b impl.Node) bool {
	return a.Id == b.Id && a.Term == b.Term && a.Vote == b.Vote && a.Role == b.Role && a.Lead == b.Lead &&
		slices.Equal(a.Conf, b.Conf) && sameLog(a.Log, b.Log) && a.Commit == b.Commit && a.Clock == b.Clock && a.Limit == b.Limit &&
		slices.Equal(a.Votes, b.Votes) && slices.Equal(a.Peers, b.Peers)
}

func sameMessages(a, b []impl.Message) bool { return slices.EqualFunc(a, b, sameMessage) }

func tellNode(n impl.Node) string {
	return fmt.Sprintf("{Id %d Term %d Vote %d Role %d Lead %d Conf %v Log %s Commit %d Clock %d Limit %d Votes %v Peers %v}",
		n.Id, n.Term, n.Vote, n.Role, n.Lead, n.Conf, tellLog(n.Log), n.Commit, n.Clock, n.Limit, n.Votes, n.Peers)
}

func tellMessages(list []impl.Message) string {
	out := fmt.Sprintf("%d messages", len(list))
	for _, m := range list {
		out += fmt.Sprintf(" {Kind %d From %d To %d Term %d Index %d LogTerm %d Commit %d Ok %v Entries %s Conf %v}",
			m.Kind, m.From, m.To, m.Term, m.Index, m.LogTerm, m.Commit, m.Ok, tellLog(logOf(m.Index, m.LogTerm, m.Entries...)), m.Conf)
	}
	return out
}

func changedNode(n impl.Node, change func(n *impl.Node)) impl.Node {
	n = copyNode(n)
	change(&n)
	return n
}

// a node that follows nobody yet, of the term of its log's last entry, all before its Limit
func follower(id int, nodes []int, l impl.Log, commit int) impl.Node {
	_, term := plainLast(l)
	return impl.Node{Id: id, Term: term, Conf: nodes, Log: l, Commit: commit, Limit: 20}
}

func candidate(n impl.Node, votes ...int) impl.Node {
	n.Vote, n.Role, n.Votes = n.Id, 1, votes
	return n
}

func leader(n impl.Node, peers ...impl.Peer) impl.Node {
	n.Vote, n.Role, n.Lead, n.Peers = n.Id, 2, n.Id, peers
	return n
}

func peerOf(id, next, match, sent int) impl.Peer {
	return impl.Peer{Id: id, Next: next, Match: match, Sent: sent}
}

// promise 19, of one step of a node: what it may not lose, and what it may tell
func lookAtStep(t *testing.T, what string, before, after impl.Node, told []impl.Message) {
	t.Helper()
	if !impl.NodeOk(after) || !plainNodeOk(after) {
		t.Fatalf("%s of %s is not right: %s", what, tellNode(before), tellNode(after))
	}
	if after.Id != before.Id || after.Term < before.Term || after.Commit < before.Commit {
		t.Fatalf("%s of %s falls: %s", what, tellNode(before), tellNode(after))
	}
	if after.Term == before.Term && before.Vote != 0 && after.Vote != before.Vote {
		t.Fatalf("%s of %s takes its Vote back: %s", what, tellNode(before), tellNode(after))
	}
	for index := after.Log.Start; index <= before.Commit; index++ {
		e, _ := plainEntryAt(after.Log, index)
		old, isEntry := plainEntryAt(before.Log, index)
		if plainTerm(after.Log, index) != plainTerm(before.Log, index) || index > after.Log.Start && isEntry && e != old {
			t.Fatalf("%s of %s loses the index %d: %s", what, tellNode(before), index, tellNode(after))
		}
	}
	for _, m := range told {
		if !impl.MessageOk(m) || !plainMessageOk(m) || m.From != before.Id || m.To == before.Id || m.Term != after.Term {
			t.Fatalf("%s of %s tells %s", what, tellNode(before), tellMessages(told))
		}
	}
}

func wantStep(t *testing.T, what string, before, got, want impl.Node, told, wanted []impl.Message, ok, right bool) {
	t.Helper()
	if !sameNode(got, want) || !sameMessages(told, wanted) || ok != right {
		t.Fatalf("%s of %s\n= %s,\n%s, %v,\nwant %s,\n%s, %v", what, tellNode(before), tellNode(got), tellMessages(told), ok, tellNode(want), tellMessages(wanted), right)
	}
	if right {
		lookAtStep(t, what, before, got, told)
	}
}

// each of these holds what the program answers against the chapter's words done anew, and answers that
func lookAtTick(t *testing.T, n impl.Node, limit int) (impl.Node, []impl.Message, bool) {
	t.Helper()
	want, wanted, right := plainTick(n, limit)
	got, told, ok := impl.Tick(n, limit)
	wantStep(t, fmt.Sprintf("Tick with %d", limit), n, got, want, told, wanted, ok, right)
	return want, wanted, right
}

func lookAtReceive(t *testing.T, n impl.Node, m impl.Message) (impl.Node, []impl.Message, bool) {
	t.Helper()
	want, wanted, right := plainReceive(n, m)
	got, told, ok := impl.Receive(n, m)
	wantStep(t, "Receive with "+tellMessage(m), n, got, want, told, wanted, ok, right)
	lookAtGrant(t, n, m, got, told)
	return want, wanted, right
}

// promise 19: a vote is granted just to one whose log is at least the node's own, and once in a Term
func lookAtGrant(t *testing.T, n impl.Node, m impl.Message, got impl.Node, told []impl.Message) {
	t.Helper()
	for _, reply := range told {
		if reply.Kind != 2 || !reply.Ok {
			continue
		}
		last, term := plainLast(n.Log)
		isBehind := m.LogTerm < term || m.LogTerm == term && m.Index < last
		if isBehind || reply.To != m.From || got.Vote != m.From || m.Term != got.Term || m.Term == n.Term && n.Vote != 0 && n.Vote != m.From {
			t.Fatalf("%s grants a vote to %s", tellNode(n), tellMessage(m))
		}
	}
}

func lookAtPropose(t *testing.T, n impl.Node, kind int, data string) (impl.Node, []impl.Message, int, bool) {
	t.Helper()
	want, wanted, index, right := plainPropose(n, kind, data)
	got, told, at, ok := impl.Propose(n, kind, data)
	what := fmt.Sprintf("Propose of %d, %.40q", kind, data)
	wantStep(t, what, n, got, want, told, wanted, ok, right)
	if at != index {
		t.Fatalf("%s to %s at %d, want %d", what, tellNode(n), at, index)
	}
	return want, wanted, index, right
}

func lookAtSettle(t *testing.T, n impl.Node, index int) (impl.Node, bool) {
	t.Helper()
	want, right := plainSettle(n, index)
	got, ok := impl.Settle(n, index)
	wantStep(t, fmt.Sprintf("Settle at %d", index), n, got, want, nil, nil, ok, right)
	return want, right
}

func wantConf(t *testing.T, what string, n impl.Node, got, want []int) {
	t.Helper()
	if !slices.Equal(got, want) {
		t.Fatalf("%s of %s = %v, want %v", what, tellNode(n), got, want)
	}
}

func lookAtConfs(t *testing.T, n impl.Node, indexes ...int) {
	t.Helper()
	wantConf(t, "ConfOf", n, impl.ConfOf(n), plainConfOf(n))
	for _, index := range indexes {
		wantConf(t, fmt.Sprintf("ConfAt %d", index), n, impl.ConfAt(n, index), plainConfAt(n, index))
	}
}

// by hand: the node with this changed, and just this is told
func handTick(t *testing.T, n impl.Node, limit int, change func(n *impl.Node), told ...impl.Message) impl.Node {
	t.Helper()
	got, list, ok := lookAtTick(t, n, limit)
	wantStep(t, "Tick by hand", n, got, changedNode(n, change), list, told, ok, true)
	return got
}

func handReceive(t *testing.T, n impl.Node, m impl.Message, change func(n *impl.Node), told ...impl.Message) impl.Node {
	t.Helper()
	got, list, ok := lookAtReceive(t, n, m)
	wantStep(t, "Receive by hand of "+tellMessage(m), n, got, changedNode(n, change), list, told, ok, true)
	return got
}

func handPropose(t *testing.T, n impl.Node, kind int, data string, index int, change func(n *impl.Node), told ...impl.Message) impl.Node {
	t.Helper()
	got, list, at, ok := lookAtPropose(t, n, kind, data)
	wantStep(t, "Propose by hand", n, got, changedNode(n, change), list, told, ok, true)
	if at != index {
		t.Fatalf("by hand %q is put behind %s at %d, and not at %d", data, tellNode(n), index, at)
	}
	return got
}

func handSettle(t *testing.T, n impl.Node, index int, change func(n *impl.Node)) impl.Node {
	t.Helper()
	got, ok := lookAtSettle(t, n, index)
	wantStep(t, "Settle by hand", n, got, changedNode(n, change), nil, nil, ok, true)
	return got
}

func unchanged(n *impl.Node) {}

func refusePropose(t *testing.T, n impl.Node, kind int, data string) {
	t.Helper()
	if got, told, at, ok := lookAtPropose(t, n, kind, data); ok || at != 0 || len(told) != 0 || !sameNode(got, impl.Node{}) {
		t.Fatalf("by hand %s refuses to propose %d, %.40q", tellNode(n), kind, data)
	}
}

func refuseReceive(t *testing.T, n impl.Node, m impl.Message) {
	t.Helper()
	if got, told, ok := lookAtReceive(t, n, m); ok || len(told) != 0 || !sameNode(got, impl.Node{}) {
		t.Fatalf("by hand %s refuses %s", tellNode(n), tellMessage(m))
	}
}

func acceptNode(t *testing.T, n impl.Node) {
	t.Helper()
	if !plainNodeOk(n) {
		t.Fatalf("by hand %s is right", tellNode(n))
	}
	if !impl.NodeOk(n) {
		t.Fatalf("NodeOk(%s) is false", tellNode(n))
	}
}

// a node that is not right is refused by all that ask for a right one
func refuseNode(t *testing.T, n impl.Node) {
	t.Helper()
	if plainNodeOk(n) {
		t.Fatalf("by hand %s is not right", tellNode(n))
	}
	if impl.NodeOk(n) {
		t.Fatalf("NodeOk(%s) is true", tellNode(n))
	}
	for _, limit := range []int{1, 20} {
		lookAtTick(t, n, limit)
	}
	for kind := 1; kind <= 6; kind++ {
		m := fullMessage(kind)
		m.From, m.To = 1+n.Id&3, n.Id
		lookAtReceive(t, n, m)
		m.Term, m.Entries = n.Term, nil
		lookAtReceive(t, n, m)
	}
	for kind := 1; kind <= 3; kind++ {
		lookAtPropose(t, n, kind, []string{"", "", "\x01\x02", "x"}[kind])
	}
	for _, index := range []int{n.Log.Start, n.Commit} {
		lookAtSettle(t, n, index)
	}
	lookAtConfs(t, n, n.Log.Start, n.Commit)
}

func decideNode(t *testing.T, n impl.Node, right bool) {
	t.Helper()
	if right {
		acceptNode(t, n)
		return
	}
	refuseNode(t, n)
}

func TestCoreConstants(t *testing.T) {
	got := []int{impl.MaxLimit, impl.RoleFollow, impl.RoleStand, impl.RoleLead}
	if want := []int{20, 0, 1, 2}; !slices.Equal(got, want) {
		t.Errorf("constants %v, want %v", got, want)
	}
}

// the conf that holds, and the one that held at each index
func TestConfs(t *testing.T) {
	n := follower(1, []int{1, 2}, logOf(5, 1), 5)
	for _, index := range []int{math.MinInt64, -1, 0, 4, 5, 6, 7, math.MaxInt64} {
		wantConf(t, "ConfAt without an EntryConf", n, impl.ConfAt(n, index), []int{1, 2})
	}
	wantConf(t, "ConfOf without an EntryConf", n, impl.ConfOf(n), []int{1, 2})

	n.Log = logOf(5, 1, none(1), conf(1, "\x01\x02\x03"), command(1, "\x04"))
	wantConf(t, "ConfOf with one", n, impl.ConfOf(n), []int{1, 2, 3})
	for _, index := range []int{math.MinInt64, math.MinInt64 + 1, -1, 0, 4, 5, 6} {
		wantConf(t, "ConfAt ahead of the one", n, impl.ConfAt(n, index), []int{1, 2})
	}
	for _, index := range []int{7, 8, 9, 10, 1000000, math.MaxInt64 - 1, math.MaxInt64} {
		wantConf(t, "ConfAt from the one on", n, impl.ConfAt(n, index), []int{1, 2, 3})
	}

	n.Log = logOf(5, 1, conf(1, "\x01"), none(1), conf(1, "\x01\x04"), conf(2, "\x02"), command(2, "\x01"))
	wantConf(t, "ConfOf with three", n, impl.ConfOf(n), []int{2})
	for index, want := range map[int][]int{4: {1, 2}, 5: {1, 2}, 6: {1}, 7: {1}, 8: {1, 4}, 9: {2}, 10: {2}, 11: {2}} {
		wantConf(t, fmt.Sprintf("ConfAt %d with three", index), n, impl.ConfAt(n, index), want)
	}

	// at the greatest index, and in a log that is full
	n.Log = logOf(999999, 1, conf(1, "\x03"))
	lookAtConfs(t, n, 999998, 999999, 1000000, 1000001)
	n.Log = longLog(41, 1, 60)
	for index := 40; index <= 103; index++ {
		lookAtConfs(t, n, index)
	}
}

// of nodes that are not right, too: by their fields alone
func TestConfsOfWrongNodes(t *testing.T) {
	lookAtConfs(t, impl.Node{}, 0, 1, -1)
	for _, nodes := range wrongConfs() {
		n := impl.Node{Conf: nodes, Log: logOf(3, 0, none(0), conf(0, "\x02\x03"))}
		lookAtConfs(t, n, 2, 3, 4, 5, 6)
		wantConf(t, "ConfAt", n, impl.ConfAt(n, 4), nodes)
		wantConf(t, "ConfAt", n, impl.ConfAt(n, 5), []int{2, 3})
	}
	// an EntryConf of no conf has none
	for _, data := range []string{"", "\x00", "\x05", "\x02\x01", "\x01\x02\x03\x04\x05", longText(20001)} {
		n := impl.Node{Conf: []int{1}, Log: logOf(3, 0, conf(0, "\x02\x03"), conf(0, data))}
		wantConf(t, "ConfOf", n, impl.ConfOf(n), nil)
		wantConf(t, "ConfAt", n, impl.ConfAt(n, 4), []int{2, 3})
		wantConf(t, "ConfAt", n, impl.ConfAt(n, 5), nil)
	}
	// any Start and any index, as far from one another as may be
	starts := []int{math.MinInt64, math.MinInt64 + 1, -1 << 32, -3, -2, -1, 0, 1, 1000000, 1000001, 1 << 32, math.MaxInt64 - 3, math.MaxInt64 - 2, math.MaxInt64 - 1, math.MaxInt64}
	for _, start := range starts {
		for _, entries := range [][]impl.Entry{nil, {conf(1, "\x02")}, {conf(1, "\x02"), none(1), conf(1, "\x03")}} {
			n := impl.Node{Conf: []int{1, 4}, Log: logOf(start, 1, entries...)}
			lookAtConfs(t, n, starts...)
			for near := -3; near <= 5; near++ {
				// which may wrap round
				lookAtConfs(t, n, start+near)
			}
		}
	}
}

// each number of a node at and past both its ends, in each Role
func TestNodeOkNumbers(t *testing.T) {
	l := logOf(7, 3, none(3), command(5, "x"))
	base := follower(2, []int{1, 2, 3}, l, 8)
	bases := []impl.Node{base, candidate(base, 2), leader(base, peerOf(1, 10, 0, 0), peerOf(3, 1, 0, 0))}
	for _, base := range bases {
		acceptNode(t, base)
		for _, n := range append(messageNumbers(), 10, 11, 19, 20, 21) {
			for _, look := range []struct {
				right  bool
				change func(c *impl.Node)
			}{
				{n >= 5 && n <= 100000, func(c *impl.Node) { c.Term = n }},
				{n >= 0 && n <= 4, func(c *impl.Node) { c.Vote = n }},
				{n >= 0 && n <= 4, func(c *impl.Node) { c.Lead = n }},
				{n >= 7 && n <= 9, func(c *impl.Node) { c.Commit = n }},
				{n >= 0 && n <= 20, func(c *impl.Node) { c.Clock = n }},
				{n >= 1 && n <= 20, func(c *impl.Node) { c.Limit = n }},
				// a leader's Id must stand with its Peers
				{n >= 1 && n <= 4 && (base.Role != 2 || n == 2), func(c *impl.Node) { c.Id = n }},
				{n == base.Role || base.Role == 0 && n == 1, func(c *impl.Node) { c.Role = n }},
			} {
				decideNode(t, changedNode(base, look.change), look.right)
			}
		}
	}
}

func TestNodeOkIds(t *testing.T) {
	for id := -1; id <= 6; id++ {
		for _, c := range handConfs() {
			n := impl.Node{Id: id, Conf: c.conf, Limit: 1}
			decideNode(t, n, id >= 1 && id <= 4)
			// a leader in its conf or not, with peers that are each other one
			n.Role = 2
			for _, other := range c.conf {
				if other != id {
					n.Peers = append(n.Peers, peerOf(other, 1, 0, 0))
				}
			}
			decideNode(t, n, id >= 1 && id <= 4)
		}
	}
}

// Conf and Log, and Term and Commit that stand with the Log
func TestNodeOkConfAndLog(t *testing.T) {
	for _, nodes := range wrongConfs() {
		refuseNode(t, impl.Node{Id: 1, Conf: nodes, Limit: 20})
		// another one that holds now does not mend it
		refuseNode(t, impl.Node{Id: 1, Conf: nodes, Limit: 20, Log: logOf(0, 0, conf(0, "\x01\x02"))})
	}
	for _, l := range rightLogs() {
		last, term := plainLast(l)
		n := follower(3, []int{1, 3}, l, l.Start)
		for _, commit := range []int{l.Start - 1, l.Start, l.Start + 1, last - 1, last, last + 1, -1, 0, 1000000, 1000001} {
			n.Commit = commit
			decideNode(t, n, commit >= l.Start && commit <= last)
		}
		n.Commit = last
		for _, n.Term = range []int{term - 1, term, term + 1, -1, 0, 100000, 100001} {
			decideNode(t, n, n.Term >= term && n.Term <= 100000)
		}
	}
	for _, l := range wrongLogs() {
		n := impl.Node{Id: 3, Conf: []int{1, 3}, Log: l, Limit: 20}
		for _, n.Term = range []int{0, 5, 100000} {
			for _, n.Commit = range []int{0, l.Start, l.Start + len(l.Entries)} {
				refuseNode(t, n)
			}
		}
	}
}

// Votes of each Role: all lists of up to three numbers, and of the most
func TestNodeOkVotes(t *testing.T) {
	base := follower(2, []int{1, 2, 3}, logOf(0, 0, none(0)), 0)
	bases := []impl.Node{base, candidate(base), leader(base, peerOf(1, 2, 0, 0), peerOf(3, 2, 1, 9))}
	lists := append(listsOf([]int{0, 1, 2, 3, 4, 5}, 3),
		[]int{1, 2, 3, 4}, []int{1, 2, 3, 4, 4}, []int{1, 2, 3, 4, 5}, []int{0, 1, 2, 3}, []int{1, 2, 4, 3}, []int{1, 2, 2, 4}, []int{1, 1, 1, 1}, []int{4, 3, 2, 1}, []int{2, 3, 4, 5},
		[]int{math.MinInt64}, []int{math.MaxInt64}, []int{257}, []int{1 << 32}, []int{-1, 1}, []int{1, 2, 3, math.MaxInt64}, []int{math.MinInt64, 1, 2, 3})
	for _, base := range bases {
		for _, votes := range lists {
			isSet := slices.IsSorted(votes) && len(slices.Compact(slices.Clone(votes))) == len(votes)
			inside := !slices.ContainsFunc(votes, func(v int) bool { return v < 1 || v > 4 })
			n := changedNode(base, func(n *impl.Node) { n.Votes = votes })
			decideNode(t, n, len(votes) == 0 || base.Role == 1 && isSet && inside)
		}
	}
}

// Peers of each Role: just a leader has them, and just those of the conf that holds now
func TestNodeOkPeers(t *testing.T) {
	full := []impl.Peer{peerOf(1, 2, 0, 0), peerOf(2, 2, 0, 0), peerOf(3, 2, 0, 0), peerOf(4, 2, 0, 0)}
	lists := [][]impl.Peer{nil, {peerOf(5, 2, 0, 0)}, {peerOf(0, 2, 0, 0)}, {{}}, {peerOf(-1, 2, 0, 0)}, {peerOf(257, 2, 0, 0)}, append(slices.Clone(full), peerOf(5, 2, 0, 0)), slices.Concat(full, full)}
	for _, ids := range listsOf([]int{0, 1, 2, 3}, 4)[1:] {
		var list []impl.Peer
		for _, at := range ids {
			list = append(list, full[at])
		}
		lists = append(lists, list)
	}
	rights := 0
	for id := 1; id <= 4; id++ {
		for _, c := range handConfs() {
			for way := range 3 {
				// its beginning's conf, or one that has come by an entry
				n := follower(id, c.conf, logOf(0, 0, none(0)), 0)
				if way > 0 {
					n = follower(id, []int{way}, logOf(0, 0, conf(0, c.text)), 0)
				}
				for _, list := range lists {
					n.Role, n.Peers = 2, list
					var ids, want []int
					for _, p := range list {
						ids = append(ids, p.Id)
					}
					for _, other := range c.conf {
						if other != id {
							want = append(want, other)
						}
					}
					right := slices.Equal(ids, want)
					if right {
						rights++
					}
					if right != impl.NodeOk(n) || right != plainNodeOk(n) {
						t.Fatalf("NodeOk(%s) = %v", tellNode(n), impl.NodeOk(n))
					}
					for n.Role = range 2 {
						if got := impl.NodeOk(n); got != (len(list) == 0) || got != plainNodeOk(n) {
							t.Fatalf("NodeOk(%s) = %v", tellNode(n), got)
						}
					}
				}
			}
		}
	}
	if rights != 4*15*3 {
		t.Errorf("%d leaders are right", rights)
	}
}

// Next, Match and Sent of each peer, at and past their ends
func TestNodeOkNextMatchSent(t *testing.T) {
	for _, l := range []impl.Log{logOf(0, 0), logOf(0, 0, none(0)), logOf(7, 3, none(3), none(3)), logOf(1000000, 3), withoutConfs(longLog(999940, 1, 60))} {
		last, _ := plainLast(l)
		base := leader(follower(2, []int{1, 2, 4}, l, last), peerOf(1, last+1, 0, 0), peerOf(4, last+1, last, 20000))
		acceptNode(t, base)
		for at := range 2 {
			change := func(change func(p *impl.Peer)) impl.Node {
				return changedNode(base, func(n *impl.Node) { change(&n.Peers[at]) })
			}
			for _, next := range append(messageNumbers(), last-1, last, last+1, last+2, l.Start, l.Start+1) {
				for _, match := range []int{-1, 0, 1, next - 2, next - 1, next, next + 1, last, last + 1, math.MinInt64, math.MaxInt64} {
					n := change(func(p *impl.Peer) { p.Next, p.Match = next, match })
					right := next >= 1 && next <= last+1 && match >= 0 && match < next
					if impl.NodeOk(n) != right || plainNodeOk(n) != right {
						t.Fatalf("NodeOk(%s) = %v", tellNode(n), impl.NodeOk(n))
					}
				}
			}
			for _, sent := range append(messageNumbers(), 19999, 20000, 20001) {
				decideNode(t, change(func(p *impl.Peer) { p.Sent = sent }), sent >= 0 && sent <= 20000)
			}
		}
	}
}

// the log with commands in the place of its confs
func withoutConfs(l impl.Log) impl.Log {
	l = copyLog(l)
	for at, e := range l.Entries {
		if e.Kind == 2 {
			l.Entries[at] = command(e.Term, "no conf")
		}
	}
	return l
}

func TestNodeNew(t *testing.T) {
	ids := append(messageNumbers(), 10)
	for _, id := range ids {
		for _, c := range handConfs() {
			n, ok := impl.NodeNew(id, c.conf)
			want := impl.Node{Id: id, Conf: c.conf, Limit: 20}
			if right := id >= 1 && id <= 4; ok != right || right && !sameNode(n, want) || !right && !sameNode(n, impl.Node{}) {
				t.Fatalf("NodeNew(%d, %v) = %s, %v", id, c.conf, tellNode(n), ok)
			}
			if ok {
				acceptNode(t, n)
			}
		}
		for _, nodes := range wrongConfs() {
			if n, ok := impl.NodeNew(id, nodes); ok || !sameNode(n, impl.Node{}) {
				t.Fatalf("NodeNew(%d, %v) = %s, %v", id, nodes, tellNode(n), ok)
			}
		}
	}
}

func ask(kind, from, to, term, index, logTerm, commit int, entries ...impl.Entry) impl.Message {
	return impl.Message{Kind: kind, From: from, To: to, Term: term, Index: index, LogTerm: logTerm, Commit: commit, Entries: entries}
}

func install(from, to, term, index, logTerm, sent int, nodes ...int) impl.Message {
	return impl.Message{Kind: 5, From: from, To: to, Term: term, Index: index, LogTerm: logTerm, Commit: sent, Conf: nodes}
}

func reply(kind, from, to, term, index, commit int, ok bool) impl.Message {
	return impl.Message{Kind: kind, From: from, To: to, Term: term, Index: index, Commit: commit, Ok: ok}
}

func TestTickWaits(t *testing.T) {
	n := follower(2, []int{1, 2, 3}, logOf(4, 1, none(2)), 4)
	n.Vote, n.Lead, n.Limit = 3, 3, 5
	for _, base := range []impl.Node{n, candidate(n, 2), candidate(n, 1, 2, 3, 4), candidate(n)} {
		for clock := range 4 {
			base.Clock = clock
			handTick(t, base, 9, func(n *impl.Node) { n.Clock = clock + 1 })
		}
		// one below Limit, at it and above it
		for _, clock := range []int{4, 5, 6, 19, 20} {
			base.Clock = clock
			handTick(t, base, 9, func(n *impl.Node) {
				n.Term, n.Vote, n.Role, n.Lead, n.Clock, n.Limit, n.Votes = 3, 2, 1, 0, 0, 9, []int{2}
			}, ask(1, 2, 1, 3, 5, 2, 0), ask(1, 2, 3, 3, 5, 2, 0))
		}
	}
	// with each Limit and each Clock
	for limit := 1; limit <= 20; limit++ {
		for clock := range 21 {
			n.Limit, n.Clock = limit, clock
			got, told, _ := lookAtTick(t, n, 20)
			if stands := clock+1 >= limit; stands != (got.Role == 1) || stands != (len(told) == 2) {
				t.Fatalf("after a tick %s is %s", tellNode(n), tellNode(got))
			}
		}
	}
}

func TestTickLimits(t *testing.T) {
	n, _ := impl.NodeNew(1, []int{1, 2})
	for _, role := range []int{0, 1, 2} {
		n.Role = role
		if role == 2 {
			n.Peers = []impl.Peer{peerOf(2, 1, 0, 0)}
		}
		for _, limit := range append(messageNumbers(), 19, 20, 21) {
			for _, clock := range []int{0, 19} {
				n.Clock = clock
				got, told, ok := lookAtTick(t, n, limit)
				if right := limit >= 1 && limit <= 20; ok != right {
					t.Fatalf("Tick with %d is %v", limit, ok)
				}
				if !ok && (len(told) > 0 || !sameNode(got, impl.Node{})) {
					t.Fatalf("Tick with %d answers %s beside false", limit, tellNode(got))
				}
				if ok && role < 2 && clock == 19 && got.Limit != limit {
					t.Fatalf("Tick with %d leaves Limit %d", limit, got.Limit)
				}
			}
		}
	}
}

// one that is not in the conf that holds does not stand, nor does one at MaxTerm
func TestTickWithoutStanding(t *testing.T) {
	outside := follower(4, []int{1, 2}, logOf(4, 1, none(2)), 4)
	dropped := follower(1, []int{1, 2}, logOf(4, 1, conf(2, "\x02")), 4)
	last := follower(1, []int{1, 2}, logOf(4, 1, none(2)), 4)
	last.Term = 100000
	alone := follower(1, []int{1}, logOf(4, 1, none(100000)), 4)
	for _, n := range []impl.Node{outside, dropped, last, alone} {
		n.Vote, n.Lead = 2, 2
		for _, base := range []impl.Node{n, candidate(n, 1, 3)} {
			base.Clock = 18
			base = handTick(t, base, 3, func(n *impl.Node) { n.Clock = 19 })
			handTick(t, base, 3, func(n *impl.Node) { n.Clock, n.Limit = 0, 3 })
		}
	}
	// one Term below the last one it stands, and so does one that has come by an entry
	last.Term, last.Clock = 99999, 19
	handTick(t, last, 3, func(n *impl.Node) {
		n.Term, n.Vote, n.Role, n.Clock, n.Limit, n.Votes = 100000, 1, 1, 0, 3, []int{1}
	}, ask(1, 1, 2, 100000, 5, 2, 0))
	come := follower(3, []int{1, 2}, logOf(4, 1, conf(2, "\x01\x02\x03\x04")), 4)
	come.Clock = 19
	handTick(t, come, 1, func(n *impl.Node) {
		n.Term, n.Vote, n.Role, n.Clock, n.Limit, n.Votes = 3, 3, 1, 0, 1, []int{3}
	}, ask(1, 3, 1, 3, 5, 2, 0), ask(1, 3, 2, 3, 5, 2, 0), ask(1, 3, 4, 3, 5, 2, 0))
}

// a node alone leads when its time comes, and commits at once what is proposed
func TestTickAlone(t *testing.T) {
	n, _ := impl.NodeNew(3, []int{3})
	for clock := range 19 {
		n = handTick(t, n, 7, func(n *impl.Node) { n.Clock = clock + 1 })
	}
	n = handTick(t, n, 7, func(n *impl.Node) {
		n.Term, n.Vote, n.Role, n.Lead, n.Log, n.Commit, n.Clock, n.Limit = 1, 3, 2, 3, logOf(0, 0, none(1)), 1, 0, 7
	})
	n = handTick(t, n, 20, unchanged)
	n = handPropose(t, n, 3, "x", 2, func(n *impl.Node) { n.Log, n.Commit = logOf(0, 0, none(1), command(1, "x")), 2 })
	n = handPropose(t, n, 1, "", 3, func(n *impl.Node) {
		n.Log, n.Commit = logOf(0, 0, none(1), command(1, "x"), none(1)), 3
	})
	n = handPropose(t, n, 2, "\x01\x03", 4, func(n *impl.Node) {
		n.Log, n.Peers = logOf(0, 0, none(1), command(1, "x"), none(1), conf(1, "\x01\x03")), []impl.Peer{peerOf(1, 4, 0, 0)}
	}, ask(3, 3, 1, 1, 3, 1, 3, conf(1, "\x01\x03")))
	lookAtConfs(t, n, 3, 4, 5)
	// what is ahead of its own Term it commits with its first entry
	old := follower(2, []int{2}, logOf(3, 1, none(1), command(2, "y")), 3)
	old.Limit, old.Vote, old.Lead = 1, 1, 1
	handTick(t, old, 2, func(n *impl.Node) {
		n.Term, n.Vote, n.Role, n.Lead, n.Limit, n.Commit = 3, 2, 2, 2, 2, 6
		n.Log = logOf(3, 1, none(1), command(2, "y"), none(3))
	})
	// and alone by an entry that has come
	old = follower(2, []int{1, 2}, logOf(3, 1, conf(1, "\x02")), 3)
	old.Clock = 20
	handTick(t, old, 20, func(n *impl.Node) {
		n.Term, n.Vote, n.Role, n.Lead, n.Clock, n.Commit, n.Log = 2, 2, 2, 2, 0, 5, logOf(3, 1, conf(1, "\x02"), none(2))
	})
}

// a leader sends to each peer, in order, and nothing of it changes
func TestTickOfALeader(t *testing.T) {
	l := logOf(7, 3, none(3), command(4, "a"), command(4, "b"), none(5), command(5, "c"), conf(5, "\x01\x02\x03\x04"))
	n := leader(follower(2, []int{1, 2}, l, 10), peerOf(1, 8, 0, 77), peerOf(3, 7, 6, 77), peerOf(4, 14, 13, 0))
	n.Term, n.Clock, n.Limit = 6, 3, 4
	for _, limit := range []int{1, 20} {
		handTick(t, n, limit, unchanged,
			ask(3, 2, 1, 6, 7, 3, 10, none(3), command(4, "a"), command(4, "b"), none(5)),
			install(2, 3, 6, 7, 3, 77, 1, 2),
			ask(3, 2, 4, 6, 13, 5, 10))
	}
	// each Next, from 1 to behind the last index: at most four entries, and a piece of a snapshot up to Start
	for next := 1; next <= 14; next++ {
		n.Peers[1] = peerOf(3, next, next-1, 20000)
		want := install(2, 3, 6, 7, 3, 20000, 1, 2)
		if next > 7 {
			term := []int{3, 3, 4, 4, 5, 5, 5}[next-8]
			want = ask(3, 2, 3, 6, next-1, term, 10, l.Entries[next-8:min(next-4, 6)]...)
		}
		_, told, _ := lookAtTick(t, n, 1)
		if len(told) != 3 || !sameMessage(told[1], want) {
			t.Fatalf("to a peer with Next %d is sent %s, want %s", next, tellMessages(told), tellMessages([]impl.Message{want}))
		}
	}
	// the conf of the log's beginning goes with a piece, whatever has come since, and the Clock stays even at its Limit
	n.Clock, n.Limit = 20, 1
	n.Peers[1] = peerOf(3, 2, 0, 0)
	got := handTick(t, n, 9, unchanged,
		ask(3, 2, 1, 6, 7, 3, 10, none(3), command(4, "a"), command(4, "b"), none(5)), install(2, 3, 6, 7, 3, 0, 1, 2), ask(3, 2, 4, 6, 13, 5, 10))
	if got.Clock != 20 {
		t.Errorf("a leader's Clock is %d", got.Clock)
	}
	// at the ends of all numbers
	far := leader(follower(4, []int{3, 4}, logOf(999999, 100000, none(100000)), 1000000), peerOf(3, 1000001, 1000000, 0))
	handTick(t, far, 1, unchanged, ask(3, 4, 3, 100000, 1000000, 100000, 1000000))
	far.Peers[0].Next, far.Peers[0].Match = 1000000, 0
	handTick(t, far, 1, unchanged, ask(3, 4, 3, 100000, 999999, 100000, 1000000, none(100000)))
	far.Peers[0].Next, far.Peers[0].Sent = 999999, 20000
	handTick(t, far, 1, unchanged, install(4, 3, 100000, 999999, 100000, 20000, 3, 4))
}

// who leads: what it puts, its Peers, and what it sends, in order
func TestLead(t *testing.T) {
	l := logOf(7, 3, none(3), command(4, "a"))
	n := candidate(follower(2, []int{1, 2, 4}, l, 7), 2)
	n.Term, n.Clock, n.Limit = 6, 3, 9
	leads := func(n *impl.Node) {
		n.Role, n.Lead, n.Votes, n.Log = 2, 2, nil, logOf(7, 3, none(3), command(4, "a"), none(6))
		n.Peers = []impl.Peer{peerOf(1, 10, 0, 0), peerOf(4, 10, 0, 0)}
	}
	handReceive(t, n, reply(2, 4, 2, 6, 0, 0, true), leads, ask(3, 2, 1, 6, 9, 4, 7, none(6)), ask(3, 2, 4, 6, 9, 4, 7, none(6)))
	// with a conf that has come by an entry
	n.Log = logOf(7, 3, conf(3, "\x01\x02\x03\x04"), command(4, "a"))
	n.Votes = []int{2, 3}
	handReceive(t, n, reply(2, 4, 2, 6, 0, 0, true), func(n *impl.Node) {
		n.Role, n.Lead, n.Votes, n.Log = 2, 2, nil, logOf(7, 3, conf(3, "\x01\x02\x03\x04"), command(4, "a"), none(6))
		n.Peers = []impl.Peer{peerOf(1, 10, 0, 0), peerOf(3, 10, 0, 0), peerOf(4, 10, 0, 0)}
	}, ask(3, 2, 1, 6, 9, 4, 7, none(6)), ask(3, 2, 3, 6, 9, 4, 7, none(6)), ask(3, 2, 4, 6, 9, 4, 7, none(6)))
}

// a log that is full, or at the greatest index, gets no EntryNone
func TestLeadWithoutRoom(t *testing.T) {
	for _, l := range []impl.Log{
		longLog(41, 1, 58), longLog(41, 1, 59), longLog(41, 1, 60), longLog(0, 0, 59), longLog(0, 0, 60), longLog(999940, 1, 59), longLog(999940, 1, 60),
		logOf(999998, 1), logOf(999999, 1), logOf(1000000, 1), logOf(999998, 1, none(2)), logOf(999999, 1, none(2)), logOf(999990, 1, slices.Repeat([]impl.Entry{command(1, "z")}, 9)...), logOf(999990, 1, slices.Repeat([]impl.Entry{command(1, "z")}, 10)...),
	} {
		l = withoutConfs(l)
		last, _ := plainLast(l)
		room := len(l.Entries) < 60 && last < 1000000
		n := candidate(follower(1, []int{1, 2, 3}, l, l.Start), 1)
		n.Term = 99999
		got, told, _ := lookAtReceive(t, n, reply(2, 3, 1, 99999, 0, 0, true))
		put, _ := plainLast(got.Log)
		if got.Role != 2 || (put == last+1) != room || !slices.Equal(got.Peers, []impl.Peer{peerOf(2, last+1, 0, 0), peerOf(3, last+1, 0, 0)}) || got.Commit != l.Start {
			t.Fatalf("%s leads as %s", tellNode(n), tellNode(got))
		}
		for _, m := range told {
			if m.Index != last || (len(m.Entries) == 1) != room || room && m.Entries[0] != none(99999) {
				t.Fatalf("%s sends %s", tellNode(n), tellMessages(told))
			}
		}
		// a node alone
		alone := follower(1, []int{1}, l, l.Start)
		alone.Limit, alone.Term = 1, 99999
		got, told, _ = lookAtTick(t, alone, 1)
		want := l.Start
		if room {
			want = last + 1
		}
		if got.Role != 2 || got.Commit != want || len(told) != 0 || len(got.Peers) != 0 || got.Term != 100000 {
			t.Fatalf("alone %s leads as %s", tellNode(alone), tellNode(got))
		}
	}
	// without an entry of its own Term nothing is committed, but with one that is there already
	l := slices.Repeat([]impl.Entry{command(4, "y")}, 60)
	n := candidate(follower(1, []int{1}, logOf(0, 0, l...), 5))
	n.Term = 5
	handReceive(t, n, reply(2, 2, 1, 5, 0, 0, true), func(n *impl.Node) { n.Votes = []int{2} })
	n.Votes = []int{1}
	handReceive(t, n, reply(2, 2, 1, 5, 0, 0, true), func(n *impl.Node) { n.Role, n.Lead, n.Votes = 2, 1, nil })
	n.Term = 4
	handReceive(t, n, reply(2, 2, 1, 4, 0, 0, true), func(n *impl.Node) { n.Role, n.Lead, n.Votes, n.Commit = 2, 1, nil, 60 })
}

// a Term above the node's, told by each Kind, to each Role
func TestReceiveOfAHigherTerm(t *testing.T) {
	l := logOf(7, 3, none(3), command(4, "a"))
	base := follower(2, []int{1, 2, 3}, l, 8)
	base.Term, base.Vote, base.Lead, base.Clock, base.Limit = 6, 3, 3, 4, 9
	lead := leader(base, peerOf(1, 10, 8, 0), peerOf(3, 8, 0, 5))
	for _, n := range []impl.Node{base, candidate(base, 2, 3), lead} {
		steps := func(lead, vote, clock int) func(n *impl.Node) {
			return func(n *impl.Node) {
				n.Term, n.Vote, n.Role, n.Lead, n.Clock, n.Votes, n.Peers = 7, vote, 0, lead, clock, nil, nil
			}
		}
		// the reply is behind the change, and has the new Term
		handReceive(t, n, ask(1, 1, 2, 7, 9, 4, 0), steps(0, 1, 0), reply(2, 2, 1, 7, 0, 0, true))
		handReceive(t, n, ask(1, 1, 2, 7, 8, 4, 0), steps(0, 0, 4), reply(2, 2, 1, 7, 0, 0, false))
		handReceive(t, n, reply(2, 3, 2, 7, 0, 0, true), steps(0, 0, 4))
		handReceive(t, n, reply(2, 3, 2, 7, 0, 0, false), steps(0, 0, 4))
		handReceive(t, n, ask(3, 1, 2, 7, 9, 4, 9), func(n *impl.Node) { steps(1, 0, 0)(n); n.Commit = 9 }, reply(4, 2, 1, 7, 9, 0, true))
		handReceive(t, n, ask(3, 1, 2, 7, 9, 5, 9), steps(1, 0, 0), reply(4, 2, 1, 7, 8, 0, false))
		handReceive(t, n, reply(4, 1, 2, 7, 9, 0, true), steps(0, 0, 4))
		handReceive(t, n, reply(4, 1, 2, 7, 9, 0, false), steps(0, 0, 4))
		handReceive(t, n, install(1, 2, 7, 12, 4, 0, 1, 2), steps(1, 0, 0))
		handReceive(t, n, reply(6, 3, 2, 7, 7, 0, true), steps(0, 0, 4))
		handReceive(t, n, reply(6, 3, 2, 7, 7, 60, false), steps(0, 0, 4))
		// and the last Term
		got, _, ok := lookAtReceive(t, n, reply(2, 1, 2, 100000, 0, 0, true))
		if !ok || got.Term != 100000 || got.Role != 0 || got.Vote != 0 {
			t.Fatalf("at the last Term it is %s", tellNode(got))
		}
	}
}

// a Term below the node's changes nothing, and just what asks for votes and entries is replied
func TestReceiveOfALowerTerm(t *testing.T) {
	l := logOf(7, 3, none(3), command(4, "a"))
	base := follower(2, []int{1, 2, 3}, l, 8)
	base.Term, base.Vote, base.Lead, base.Clock, base.Limit = 6, 3, 3, 4, 9
	free := base
	free.Vote = 0
	lead := leader(base, peerOf(1, 10, 8, 0), peerOf(3, 8, 0, 5))
	for _, n := range []impl.Node{base, free, candidate(base, 2), lead} {
		for _, term := range []int{0, 4, 5} {
			handReceive(t, n, ask(1, 3, 2, term, 1000000, 100000, 0), unchanged, reply(2, 2, 3, 6, 0, 0, false))
			handReceive(t, n, reply(2, 1, 2, term, 0, 0, true), unchanged)
			handReceive(t, n, ask(3, 1, 2, term, 9, 4, 9), unchanged, reply(4, 2, 1, 6, 0, 0, false))
			handReceive(t, n, ask(3, 1, 2, term, 12, 4, 9), unchanged, reply(4, 2, 1, 6, 0, 0, false))
			handReceive(t, n, reply(4, 1, 2, term, 9, 0, true), unchanged)
			handReceive(t, n, reply(4, 1, 2, term, 2, 0, false), unchanged)
			handReceive(t, n, install(1, 2, term, 12, 4, 0, 1, 2), unchanged)
			handReceive(t, n, reply(6, 3, 2, term, 7, 0, true), unchanged)
			handReceive(t, n, reply(6, 3, 2, term, 7, 60, false), unchanged)
		}
	}
}

// To that is not Id, and what is not right
func TestReceiveRefuses(t *testing.T) {
	n := follower(2, []int{1, 2, 3}, logOf(7, 3, none(3), command(4, "a")), 8)
	for kind := 1; kind <= 6; kind++ {
		for to := 1; to <= 4; to++ {
			for _, term := range []int{300, 100000} {
				m := fullMessage(kind)
				m.Term, m.To, m.From = term, to, 1+to%4
				if to == 2 {
					lookAtReceive(t, n, m)
					if _, _, ok := impl.Receive(n, m); !ok {
						t.Fatalf("%s is refused", tellMessage(m))
					}
					continue
				}
				refuseReceive(t, n, m)
			}
		}
	}
	for _, n := range []impl.Node{n, candidate(n, 2), leader(n, peerOf(1, 10, 0, 0), peerOf(3, 10, 0, 0))} {
		for _, m := range brokenMessages() {
			refuseReceive(t, n, m)
			if m.To == 3 {
				m.To = 2
				m.From = map[bool]int{true: m.From, false: 1}[m.From != 2]
				lookAtReceive(t, n, m)
			}
		}
	}
}

// a vote that is asked for, with the log behind, as far and ahead, and with the vote given and not
func TestReceiveAskVote(t *testing.T) {
	l := logOf(7, 3, none(3), command(4, "a"))
	base := follower(2, []int{1, 2, 3}, l, 8)
	base.Term, base.Lead, base.Clock, base.Limit = 6, 3, 4, 9
	for _, role := range []int{0, 1, 2} {
		for vote := 0; vote <= 4; vote++ {
			n := base
			if role == 1 {
				n = candidate(n, 2, 3)
			} else if role == 2 {
				n = leader(n, peerOf(1, 10, 8, 0), peerOf(3, 8, 0, 5))
			}
			n.Vote = vote
			for _, from := range []int{1, 3, 4} {
				for _, look := range []struct {
					index, term int
					isAsFar     bool
				}{
					{9, 4, true}, {8, 4, false}, {10, 4, true}, {1000000, 4, true}, {0, 4, false},
					{9, 3, false}, {10, 3, false}, {1000000, 0, false}, {9, 5, true}, {8, 5, true}, {0, 5, true}, {0, 100000, true}, {1000000, 100000, true},
				} {
					ok := look.isAsFar && (vote == 0 || vote == from)
					handReceive(t, n, ask(1, from, 2, 6, look.index, look.term, 0), func(n *impl.Node) {
						if ok {
							n.Vote, n.Clock = from, 0
						}
					}, reply(2, 2, from, 6, 0, 0, ok))
				}
			}
		}
	}
	// of a log without entries its beginning counts, and of the flags and Commit nothing does
	n := follower(2, []int{1, 2, 3}, logOf(7, 3), 7)
	n.Clock = 1
	for _, look := range []struct {
		index, term int
		ok          bool
	}{{7, 3, true}, {6, 3, false}, {8, 3, true}, {7, 2, false}, {6, 4, true}} {
		m := ask(1, 4, 2, 3, look.index, look.term, 99)
		m.Ok = true
		handReceive(t, n, m, func(n *impl.Node) {
			if look.ok {
				n.Vote, n.Clock = 4, 0
			}
		}, reply(2, 2, 4, 3, 0, 0, look.ok))
	}
}

// votes that are told: twice, by one outside, and to the most
func TestReceiveTellVote(t *testing.T) {
	l := logOf(7, 3, none(3), command(4, "a"))
	base := follower(2, []int{1, 2, 3, 4}, l, 8)
	base.Term, base.Clock, base.Limit = 6, 4, 9
	n := candidate(base, 2)
	votes := func(list ...int) func(n *impl.Node) { return func(n *impl.Node) { n.Votes = list } }
	n = handReceive(t, n, reply(2, 4, 2, 6, 0, 0, true), votes(2, 4))
	n = handReceive(t, n, reply(2, 4, 2, 6, 0, 0, true), votes(2, 4))
	n = handReceive(t, n, reply(2, 1, 2, 6, 0, 0, false), unchanged)
	n = handReceive(t, n, reply(2, 1, 2, 5, 0, 0, true), unchanged)
	got := handReceive(t, n, reply(2, 1, 2, 6, 0, 0, true), func(n *impl.Node) {
		n.Role, n.Lead, n.Votes, n.Log = 2, 2, nil, logOf(7, 3, none(3), command(4, "a"), none(6))
		n.Peers = []impl.Peer{peerOf(1, 10, 0, 0), peerOf(3, 10, 0, 0), peerOf(4, 10, 0, 0)}
	}, ask(3, 2, 1, 6, 9, 4, 8, none(6)), ask(3, 2, 3, 6, 9, 4, 8, none(6)), ask(3, 2, 4, 6, 9, 4, 8, none(6)))
	// one that leads takes no more, nor does one that follows
	handReceive(t, got, reply(2, 3, 2, 6, 0, 0, true), unchanged)
	handReceive(t, base, reply(2, 3, 2, 6, 0, 0, true), unchanged)
	handReceive(t, base, reply(2, 3, 2, 6, 0, 0, false), unchanged)

	// in order, wherever it comes
	for _, look := range [][3][]int{{nil, {3}, {3}}, {{1}, {3}, {1, 3}}, {{3}, {1}, {1, 3}}, {{4}, {1}, {1, 4}}, {{2}, {1}, {1, 2}}, {{3, 4}, {1}, nil}, {{2}, {2}, nil}} {
		from := look[1][0]
		n := candidate(base, look[0]...)
		if from == 2 {
			continue
		}
		got, _, _ := lookAtReceive(t, n, reply(2, from, 2, 6, 0, 0, true))
		if !slices.Equal(got.Votes, look[2]) || (look[2] == nil) != (got.Role == 2) {
			t.Fatalf("with %v and a vote of %d it is %s", look[0], from, tellNode(got))
		}
	}
	// one that is not of the conf is in Votes, and is no help
	small := candidate(follower(2, []int{1, 2, 3}, l, 8), 2)
	small.Term = 6
	small = handReceive(t, small, reply(2, 4, 2, 6, 0, 0, true), votes(2, 4))
	got, _, _ = lookAtReceive(t, small, reply(2, 3, 2, 6, 0, 0, true))
	if got.Role != 2 {
		t.Errorf("with the votes of 2 and 3 it does not lead: %s", tellNode(got))
	}
	// votes that are most already: the next one that is told, even twice, makes it lead
	ready := candidate(small, 1, 2, 3)
	if got, _, _ = lookAtReceive(t, ready, reply(2, 3, 2, 6, 0, 0, true)); got.Role != 2 {
		t.Errorf("with all votes it does not lead: %s", tellNode(got))
	}
	handReceive(t, ready, reply(2, 3, 2, 6, 0, 0, false), unchanged)
}

// in confs of each size, of any nodes, more than half must vote
func TestVotesToTheMost(t *testing.T) {
	for _, c := range handConfs() {
		for id := 1; id <= 4; id++ {
			for _, votes := range listsOf([]int{1, 2, 3, 4}, 4) {
				n := follower(id, c.conf, logOf(0, 0, none(1)), 0)
				n = candidate(n, slices.Compact(slices.Sorted(slices.Values(votes)))...)
				for from := 1; from <= 4; from++ {
					if from == id {
						continue
					}
					got, _, _ := lookAtReceive(t, n, reply(2, from, id, 1, 0, 0, true))
					in := 0
					for _, other := range c.conf {
						if other == from || slices.Contains(votes, other) {
							in++
						}
					}
					inConf := slices.Contains(c.conf, id)
					if leads := got.Role == 2; leads != (2*in > len(c.conf) && inConf) {
						t.Fatalf("with a vote of %d %s is %s", from, tellNode(n), tellNode(got))
					}
				}
			}
		}
	}
}

// what an AskAppend makes of a node of its Term or below, in each Role
func TestReceiveAskAppend(t *testing.T) {
	l := logOf(7, 3, none(3), command(4, "a"), command(4, "b"), none(5))
	base := follower(2, []int{1, 2, 3}, l, 9)
	base.Term, base.Vote, base.Clock, base.Limit = 6, 2, 4, 9
	for _, n := range []impl.Node{base, candidate(base, 2, 3), leader(base, peerOf(1, 10, 8, 0), peerOf(3, 8, 0, 5))} {
		for _, term := range []int{6, 8} {
			step := func(change func(n *impl.Node)) func(n *impl.Node) {
				return func(n *impl.Node) {
					if term == 8 {
						n.Term, n.Vote = 8, 0
					}
					n.Role, n.Lead, n.Clock, n.Votes, n.Peers = 0, 3, 0, nil, nil
					change(n)
				}
			}
			append3 := func(index, logTerm, commit int, entries ...impl.Entry) impl.Message {
				return ask(3, 3, 2, term, index, logTerm, commit, entries...)
			}
			yes := func(index int) impl.Message { return reply(4, 2, 3, term, index, 0, true) }
			no := func(index int) impl.Message { return reply(4, 2, 3, term, index, 0, false) }
			log := func(entries ...impl.Entry) func(n *impl.Node) {
				return step(func(n *impl.Node) { n.Log.Entries = entries })
			}
			// no entries: at the last index, between, at Start, and behind the last
			handReceive(t, n, append3(11, 5, 0), step(unchanged), yes(11))
			handReceive(t, n, append3(9, 4, 0), step(unchanged), yes(9))
			handReceive(t, n, append3(7, 3, 0), step(unchanged), yes(7))
			handReceive(t, n, append3(12, 5, 0), step(unchanged), no(11))
			handReceive(t, n, append3(13, 5, 0), step(unchanged), no(11))
			handReceive(t, n, append3(1000000, 5, 0), step(unchanged), no(11))
			// another term at Index: the one ahead is told, or the last one
			handReceive(t, n, append3(11, 4, 0), step(unchanged), no(10))
			handReceive(t, n, append3(11, 6, 0, none(6)), step(unchanged), no(10))
			handReceive(t, n, append3(8, 4, 0), step(unchanged), no(7))
			handReceive(t, n, append3(7, 4, 0), step(unchanged), no(6))
			handReceive(t, n, append3(7, 0, 9, none(0)), step(unchanged), no(6))
			// behind the last
			handReceive(t, n, append3(11, 5, 0, none(5), command(6, "n")), log(none(3), command(4, "a"), command(4, "b"), none(5), none(5), command(6, "n")), yes(13))
			handReceive(t, n, append3(12, 5, 0, none(5)), step(unchanged), no(11))
			// entries that are there already, with or without what is behind them; of one Term they count as the same
			handReceive(t, n, append3(9, 4, 0, command(4, "b"), none(5)), step(unchanged), yes(11))
			handReceive(t, n, append3(7, 3, 0, none(3), command(4, "a")), step(unchanged), yes(9))
			handReceive(t, n, append3(9, 4, 0, command(4, "other")), step(unchanged), yes(10))
			handReceive(t, n, append3(9, 4, 0, command(4, "b"), none(5), none(6)), log(none(3), command(4, "a"), command(4, "b"), none(5), none(6)), yes(12))
			// others' places are taken, and what is behind is gone
			handReceive(t, n, append3(9, 4, 0, command(6, "n")), log(none(3), command(4, "a"), command(6, "n")), yes(10))
			handReceive(t, n, append3(10, 4, 0, command(6, "n")), log(none(3), command(4, "a"), command(4, "b"), command(6, "n")), yes(11))
			handReceive(t, n, append3(9, 4, 0, command(4, "b"), command(6, "n"), none(6)), log(none(3), command(4, "a"), command(4, "b"), command(6, "n"), none(6)), yes(12))
			handReceive(t, n, append3(9, 4, 0, none(5)), log(none(3), command(4, "a"), none(5)), yes(10))
			// not of what is committed
			handReceive(t, n, append3(8, 3, 11, command(6, "n")), step(unchanged), no(11))
			handReceive(t, n, append3(7, 3, 11, none(3), none(5), none(5)), step(unchanged), no(11))
			handReceive(t, n, append3(7, 3, 11, none(4)), step(unchanged), no(11))
		}
	}
}

// Index below Start: what the node has settled is passed over
func TestReceiveAskAppendBelowStart(t *testing.T) {
	l := logOf(7, 3, none(3), command(4, "a"))
	n := follower(2, []int{1, 2, 3}, l, 7)
	n.Term, n.Lead = 6, 1
	old := command(2, "old")
	three := command(3, "3")
	log := func(commit int, entries ...impl.Entry) func(n *impl.Node) {
		return func(n *impl.Node) { n.Log.Entries, n.Commit = entries, commit }
	}
	give := func(index, logTerm, commit int, entries ...impl.Entry) impl.Message {
		return ask(3, 1, 2, 6, index, logTerm, commit, entries...)
	}
	// just as many as it is below; the message's own LogTerm is passed over, too
	handReceive(t, n, give(6, 2, 0, three, none(3), command(4, "a")), unchanged, reply(4, 2, 1, 6, 9, 0, true))
	handReceive(t, n, give(5, 0, 0, old, three, none(3), command(6, "n")), log(7, none(3), command(6, "n")), reply(4, 2, 1, 6, 9, 0, true))
	handReceive(t, n, give(4, 1, 0, old, old, three, none(5)), log(7, none(5)), reply(4, 2, 1, 6, 8, 0, true))
	// all of them
	handReceive(t, n, give(3, 1, 0, old, old, old, three), unchanged, reply(4, 2, 1, 6, 7, 0, true))
	handReceive(t, n, give(2, 1, 9, old, old, old, three), unchanged, reply(4, 2, 1, 6, 7, 0, true))
	handReceive(t, n, give(0, 0, 9, old), unchanged, reply(4, 2, 1, 6, 7, 0, true))
	handReceive(t, n, give(0, 0, 9), unchanged, reply(4, 2, 1, 6, 7, 0, true))
	handReceive(t, n, give(6, 2, 9), unchanged, reply(4, 2, 1, 6, 7, 0, true))
	// what comes must go on from StartTerm
	handReceive(t, n, give(6, 2, 9, old, old), unchanged, reply(4, 2, 1, 6, 9, 0, false))
	handReceive(t, n, give(5, 2, 9, old, old, none(3), none(3)), log(9, none(3), none(3)), reply(4, 2, 1, 6, 9, 0, true))
	// Commit goes as far as what is left of the entries
	handReceive(t, n, give(6, 2, 9, three, none(3)), log(8, none(3), command(4, "a")), reply(4, 2, 1, 6, 8, 0, true))
	handReceive(t, n, give(6, 2, 8, three, none(3), command(4, "a")), log(8, none(3), command(4, "a")), reply(4, 2, 1, 6, 9, 0, true))
	// far below
	far := follower(2, []int{1, 2, 3}, logOf(1000000, 3), 1000000)
	handReceive(t, far, ask(3, 1, 2, 3, 0, 0, 1000000, none(1), none(2)), func(n *impl.Node) { n.Lead = 1 }, reply(4, 2, 1, 3, 1000000, 0, true))
	handReceive(t, far, ask(3, 1, 2, 3, 999999, 0, 1000000, none(1)), func(n *impl.Node) { n.Lead = 1 }, reply(4, 2, 1, 3, 1000000, 0, true))
	handReceive(t, far, ask(3, 1, 2, 3, 999999, 0, 1000000, none(1), none(3)), func(n *impl.Node) { n.Lead = 1 }, reply(4, 2, 1, 3, 1000000, 0, false))
}

// Commit of the message below, within and above what comes
func TestReceiveAskAppendCommits(t *testing.T) {
	l := logOf(7, 3, none(3), command(4, "a"), command(4, "b"), none(5))
	for own := 7; own <= 11; own++ {
		n := follower(2, []int{1, 2, 3}, l, own)
		for index := 7; index <= 11; index++ {
			for count := 0; count <= 11-index; count++ {
				for _, commit := range []int{0, 6, 7, 8, 9, 10, 11, 12, 1000000} {
					m := ask(3, 3, 2, 5, index, plainTerm(l, index), commit, l.Entries[index-7:index-7+count]...)
					handReceive(t, n, m, func(n *impl.Node) {
						n.Lead = 3
						n.Commit = max(own, min(commit, index+count))
					}, reply(4, 2, 3, 5, index+count, 0, true))
				}
			}
		}
		// with new entries, and with a refusal
		handReceive(t, n, ask(3, 3, 2, 5, 11, 5, 12, none(5), none(5)), func(n *impl.Node) {
			n.Lead, n.Commit, n.Log = 3, 12, logOf(7, 3, none(3), command(4, "a"), command(4, "b"), none(5), none(5), none(5))
		}, reply(4, 2, 3, 5, 13, 0, true))
		handReceive(t, n, ask(3, 3, 2, 5, 11, 4, 11), func(n *impl.Node) { n.Lead = 3 }, reply(4, 2, 3, 5, 10, 0, false))
	}
}

// what comes would be no right log: too long, or past the greatest index
func TestReceiveAskAppendWithoutRoom(t *testing.T) {
	for have := 54; have <= 60; have++ {
		l := withoutConfs(longLog(41, 1, have))
		n := follower(1, []int{1, 2}, l, 41)
		last, term := plainLast(l)
		for count := 0; count <= 4; count++ {
			m := ask(3, 2, 1, term+1, last, term, 0, slices.Repeat([]impl.Entry{none(term + 1)}, count)...)
			got, told, _ := lookAtReceive(t, n, m)
			fits := have+count <= 60
			if told[0].Ok != fits || told[0].Index != map[bool]int{true: last + count, false: last}[fits] || !fits && !sameLog(got.Log, l) || got.Lead != 2 || got.Term != term+1 {
				t.Fatalf("%d entries come to %d: %s, %s", count, have, tellNode(got), tellMessages(told))
			}
			// in others' places they may fit
			m.Index, m.LogTerm = last-3, plainTerm(l, last-3)
			_, told, _ = lookAtReceive(t, n, m)
			if fits := have-3+count <= 60; told[0].Ok != fits {
				t.Fatalf("%d entries in the places of 3 come to %d: %s", count, have, tellMessages(told))
			}
		}
	}
	for start := 999990; start <= 1000000; start++ {
		l := withoutConfs(longLog(start, 1, min(8, 1000000-start)))
		n := follower(1, []int{1, 2}, l, start)
		last, term := plainLast(l)
		for count := 0; count <= 4; count++ {
			_, told, _ := lookAtReceive(t, n, ask(3, 2, 1, term, last, term, 1000000, slices.Repeat([]impl.Entry{none(term)}, count)...))
			if fits := last+count <= 1000000; told[0].Ok != fits {
				t.Fatalf("%d entries come behind %d: %s", count, last, tellMessages(told))
			}
		}
	}
	// at the least indexes nothing below 0 is told
	n := follower(1, []int{1, 2}, logOf(0, 2), 0)
	for _, index := range []int{0, 1, 2, 3} {
		_, told, _ := lookAtReceive(t, n, ask(3, 2, 1, 2, index, 1, 0))
		if told[0].Ok || told[0].Index != 0 {
			t.Fatalf("of %d it tells %s", index, tellMessages(told))
		}
	}
}

// a peer that has more: Match, Next, Commit, and what is sent next
func TestReceiveTellAppend(t *testing.T) {
	l := logOf(7, 3, none(3), command(4, "a"), none(6), command(6, "b"), command(6, "c"))
	n := leader(follower(2, []int{1, 2, 3, 4}, l, 8), peerOf(1, 10, 0, 0), peerOf(3, 8, 7, 5), peerOf(4, 13, 0, 0))
	peers := func(commit int, list ...impl.Peer) func(n *impl.Node) {
		return func(n *impl.Node) { n.Peers, n.Commit = list, commit }
	}
	// not most of four yet; to one that lacks some still more is sent
	a := handReceive(t, n, reply(4, 1, 2, 6, 10, 0, true), peers(8, peerOf(1, 11, 10, 0), peerOf(3, 8, 7, 5), peerOf(4, 13, 0, 0)),
		ask(3, 2, 1, 6, 10, 6, 8, command(6, "b"), command(6, "c")))
	// up to the last one: nothing is sent; and Commit goes as far as three have it
	b := handReceive(t, a, reply(4, 4, 2, 6, 12, 0, true), peers(10, peerOf(1, 11, 10, 0), peerOf(3, 8, 7, 5), peerOf(4, 13, 12, 0)))
	c := handReceive(t, b, reply(4, 3, 2, 6, 11, 0, true), peers(11, peerOf(1, 11, 10, 0), peerOf(3, 12, 11, 5), peerOf(4, 13, 12, 0)),
		ask(3, 2, 3, 6, 11, 6, 11, command(6, "c")))
	// told late: Match stays, and Next is one more than it
	c = handReceive(t, c, reply(4, 1, 2, 6, 9, 0, true), unchanged, ask(3, 2, 1, 6, 10, 6, 11, command(6, "b"), command(6, "c")))
	c = handReceive(t, c, reply(4, 3, 2, 6, 0, 0, true), unchanged, ask(3, 2, 3, 6, 11, 6, 11, command(6, "c")))
	// above the last one it counts as the last
	c = handReceive(t, c, reply(4, 1, 2, 6, 1000000, 0, true), peers(12, peerOf(1, 13, 12, 0), peerOf(3, 12, 11, 5), peerOf(4, 13, 12, 0)))
	c = handReceive(t, c, reply(4, 1, 2, 6, 9, 0, true), unchanged)
	handReceive(t, c, reply(4, 3, 2, 6, 13, 0, true), peers(12, peerOf(1, 13, 12, 0), peerOf(3, 13, 12, 5), peerOf(4, 13, 12, 0)))
	// Next is above what is known: it comes back to one more than Match
	handReceive(t, n, reply(4, 4, 2, 6, 3, 0, true), peers(8, peerOf(1, 10, 0, 0), peerOf(3, 8, 7, 5), peerOf(4, 4, 3, 0)), install(2, 4, 6, 7, 3, 0, 1, 2, 3, 4))

	// without Ok: Next goes back to one above Index, or above Match, and never on; it is sent anew each time
	for _, look := range []struct{ next, match, index, want int }{
		{10, 0, 8, 9}, {10, 0, 9, 10}, {10, 0, 10, 10}, {10, 0, 1000000, 10}, {10, 0, 7, 8}, {10, 0, 6, 7}, {10, 0, 0, 1},
		{10, 9, 8, 10}, {10, 9, 0, 10}, {10, 8, 0, 9}, {13, 8, 10, 11}, {13, 12, 12, 13}, {1, 0, 0, 1}, {1, 0, 5, 1}, {5, 2, 3, 4}, {5, 2, 1, 3},
	} {
		n.Peers[1] = peerOf(3, look.next, look.match, 66)
		want := peerOf(3, look.want, look.match, 66)
		sent := install(2, 3, 6, 7, 3, 66, 1, 2, 3, 4)
		if look.want > 7 {
			sent = ask(3, 2, 3, 6, look.want-1, plainTerm(l, look.want-1), 8, l.Entries[look.want-8:min(look.want-4, 5)]...)
		}
		handReceive(t, n, reply(4, 3, 2, 6, look.index, 0, false), func(n *impl.Node) { n.Peers[1] = want }, sent)
	}
	// of one that is no peer, and to one that does not lead
	n.Peers[1] = peerOf(3, 8, 7, 5)
	small := leader(follower(2, []int{1, 2}, l, 8), peerOf(1, 10, 0, 0))
	for _, ok := range []bool{true, false} {
		for _, kind := range []int{4, 6} {
			for _, base := range []impl.Node{follower(2, []int{1, 2, 3}, l, 8), candidate(follower(2, []int{1, 2, 3}, l, 8), 2)} {
				handReceive(t, base, reply(kind, 1, 2, 6, 12, 9, ok), unchanged)
			}
			for _, from := range []int{3, 4} {
				handReceive(t, small, reply(kind, from, 2, 6, 12, 9, ok), unchanged)
			}
		}
	}
}

// Commit goes on only over an index of the node's own Term, which more than half of the conf have
func TestCommitGoesOn(t *testing.T) {
	l := logOf(7, 3, none(4), none(5), none(6), none(6))
	for _, c := range handConfs() {
		for id := 1; id <= 4; id++ {
			var others []int
			for _, other := range c.conf {
				if other != id {
					others = append(others, other)
				}
			}
			if len(others) == 0 {
				continue
			}
			for ways := range 1 << (2 * len(others)) {
				for _, own := range []int{7, 8, 9, 10} {
					for _, term := range []int{6, 7} {
						n := leader(follower(id, c.conf, l, own))
						n.Term = term
						for at, other := range others {
							match := []int{0, 8, 9, 10}[ways>>(2*at)&3]
							n.Peers = append(n.Peers, peerOf(other, match+1, match, 0))
						}
						for at, other := range others {
							for _, index := range []int{8, 10, 11} {
								got, _, _ := lookAtReceive(t, n, reply(4, other, id, term, index, 0, true))
								// counted anew: how many have 11, and how many have 10
								want := own
								for to := 10; to <= 11; to++ {
									have := 0
									for peer, p := range n.Peers {
										match := p.Match
										if peer == at {
											match = max(match, index)
										}
										if match >= to {
											have++
										}
									}
									if slices.Contains(c.conf, id) {
										have++
									}
									if term == 6 && 2*have > len(c.conf) {
										want = max(want, to)
									}
								}
								if got.Commit != want {
									t.Fatalf("with %d of %d %s commits %d, want %d", index, other, tellNode(n), got.Commit, want)
								}
							}
						}
					}
				}
			}
		}
	}
}

// one that leads and is not in the conf that holds steps back when that one is committed, and not before
func TestLeaderOutside(t *testing.T) {
	l := logOf(7, 3, none(4), conf(4, "\x01\x03"), command(4, "x"), command(4, "y"))
	n := leader(follower(2, []int{1, 2, 3}, l, 8), peerOf(1, 12, 8, 0), peerOf(3, 9, 8, 0))
	back := func(commit int) func(n *impl.Node) {
		return func(n *impl.Node) { n.Role, n.Lead, n.Commit, n.Peers = 0, 0, commit, nil }
	}
	// its own entry does not count: most of two are both
	a := handReceive(t, n, reply(4, 1, 2, 4, 11, 0, true), func(n *impl.Node) { n.Peers[0] = peerOf(1, 12, 11, 0) })
	b := handReceive(t, a, reply(4, 3, 2, 4, 8, 0, true), unchanged, ask(3, 2, 3, 4, 8, 4, 8, conf(4, "\x01\x03"), command(4, "x"), command(4, "y")))
	// committed: it steps back, and sends nothing more to one that lacks some still
	handReceive(t, b, reply(4, 3, 2, 4, 9, 0, true), back(9))
	handReceive(t, b, reply(4, 3, 2, 4, 10, 0, true), back(10))
	handReceive(t, b, reply(4, 3, 2, 4, 11, 0, true), back(11))
	handReceive(t, b, reply(6, 3, 2, 4, 11, 0, true), back(11))
	// one below, with more of them behind
	l = logOf(7, 3, none(4), command(4, "x"), conf(4, "\x01\x03"))
	n = leader(follower(2, []int{1, 2, 3}, l, 8), peerOf(1, 11, 10, 0), peerOf(3, 9, 8, 0))
	c := handReceive(t, n, reply(4, 3, 2, 4, 9, 0, true), func(n *impl.Node) { n.Commit, n.Peers[1] = 9, peerOf(3, 10, 9, 0) }, ask(3, 2, 3, 4, 9, 4, 9, conf(4, "\x01\x03")))
	c = handReceive(t, c, reply(4, 3, 2, 4, 3, 0, false), unchanged, ask(3, 2, 3, 4, 9, 4, 9, conf(4, "\x01\x03")))
	c = handTick(t, c, 3, unchanged, ask(3, 2, 1, 4, 10, 4, 9), ask(3, 2, 3, 4, 9, 4, 9, conf(4, "\x01\x03")))
	handReceive(t, c, reply(4, 3, 2, 4, 10, 0, true), back(10))
	// what is proposed meanwhile is put and sent
	handPropose(t, c, 3, "z", 11, func(n *impl.Node) { n.Log.Entries = append(n.Log.Entries, command(4, "z")) },
		ask(3, 2, 1, 4, 10, 4, 9, command(4, "z")), ask(3, 2, 3, 4, 9, 4, 9, conf(4, "\x01\x03"), command(4, "z")))
	// one whose peers have told all of it already steps back by what it proposes itself, ahead of what it would send
	ready := leader(follower(2, []int{1, 2, 3}, l, 9), peerOf(1, 11, 10, 0), peerOf(3, 11, 10, 0))
	handPropose(t, ready, 1, "", 11, func(n *impl.Node) {
		back(10)(n)
		n.Log.Entries = append(n.Log.Entries, none(4))
	})
	// without an EntryConf the conf of the beginning holds, and it is committed
	outside := leader(follower(4, []int{1, 2}, logOf(7, 3, none(3)), 7), peerOf(1, 9, 0, 0), peerOf(2, 9, 0, 0))
	handTick(t, outside, 1, unchanged, ask(3, 4, 1, 3, 8, 3, 7), ask(3, 4, 2, 3, 8, 3, 7))
	handReceive(t, outside, reply(4, 1, 4, 3, 2, 0, true), back(7))
	// and one in the conf goes on leading
	inside := leader(follower(1, []int{1, 2, 3}, l, 9), peerOf(3, 11, 0, 0))
	handReceive(t, inside, reply(4, 3, 1, 4, 10, 0, true), func(n *impl.Node) { n.Commit, n.Peers = 10, []impl.Peer{peerOf(3, 11, 10, 0)} })
	// one that stands outside leads, puts its EntryNone, and steps back at once, ahead of what it would send
	stands := candidate(follower(4, []int{1, 2}, logOf(7, 3, none(3)), 7), 1)
	handReceive(t, stands, reply(2, 2, 4, 3, 0, 0, true), func(n *impl.Node) {
		n.Role, n.Votes, n.Log = 0, nil, logOf(7, 3, none(3), none(3))
	})
	// with an EntryConf that is not committed yet it leads
	stands = candidate(follower(4, []int{1, 4}, logOf(7, 3, conf(3, "\x01\x02")), 7), 1)
	handReceive(t, stands, reply(2, 2, 4, 3, 0, 0, true), func(n *impl.Node) {
		n.Role, n.Lead, n.Votes, n.Log = 2, 4, nil, logOf(7, 3, conf(3, "\x01\x02"), none(3))
		n.Peers = []impl.Peer{peerOf(1, 9, 0, 0), peerOf(2, 9, 0, 0)}
	}, ask(3, 4, 1, 3, 8, 3, 7, none(3)), ask(3, 4, 2, 3, 8, 3, 7, none(3)))
}

// of AskInstall the core does no more than to follow
func TestReceiveAskInstall(t *testing.T) {
	l := logOf(7, 3, none(3), command(4, "a"))
	base := follower(2, []int{1, 2, 3}, l, 8)
	base.Term, base.Vote, base.Lead, base.Clock, base.Limit = 6, 3, 1, 4, 9
	for _, n := range []impl.Node{base, candidate(base, 2, 3), leader(base, peerOf(1, 10, 8, 0), peerOf(3, 8, 0, 5))} {
		for _, index := range []int{0, 7, 8, 9, 10, 1000000} {
			m := install(4, 2, 6, index, 4, 60, 1, 2, 3, 4)
			m.Data, m.Last = longText(60), index == 9
			handReceive(t, n, m, func(n *impl.Node) { n.Role, n.Lead, n.Clock, n.Votes, n.Peers = 0, 4, 0, nil, nil })
			m.Term = 5
			handReceive(t, n, m, unchanged)
			m.Term = 9
			handReceive(t, n, m, func(n *impl.Node) {
				n.Term, n.Vote, n.Role, n.Lead, n.Clock, n.Votes, n.Peers = 9, 0, 0, 4, 0, nil, nil
			})
		}
	}
}

func TestReceiveTellInstall(t *testing.T) {
	l := logOf(7, 3, none(3), command(4, "a"), none(6))
	n := leader(follower(2, []int{1, 2, 3}, l, 8), peerOf(1, 3, 0, 60), peerOf(3, 11, 0, 77))
	sent := func(at int) func(n *impl.Node) { return func(n *impl.Node) { n.Peers[0].Sent = at } }
	piece := func(at int) impl.Message { return install(2, 1, 6, 7, 3, at, 1, 2, 3) }
	// without Ok: how far the peer has come, of the snapshot at Start alone
	for _, commit := range []int{0, 1, 59, 60, 61, 120, 19999, 20000} {
		handReceive(t, n, reply(6, 1, 2, 6, 7, commit, false), sent(commit), piece(commit))
		for _, index := range []int{0, 6, 8, 10, 1000000} {
			handReceive(t, n, reply(6, 1, 2, 6, index, commit, false), sent(0), piece(0))
		}
	}
	// further than any text goes: the node stays right
	for _, commit := range []int{20001, 20002, 100000, 999999, 1000000} {
		handReceive(t, n, reply(6, 1, 2, 6, 7, commit, false), sent(0), piece(0))
	}
	// to one whose Next is above Start entries are sent, and Next stays
	handReceive(t, n, reply(6, 3, 2, 6, 7, 180, false), func(n *impl.Node) { n.Peers[1].Sent = 180 }, ask(3, 2, 3, 6, 10, 6, 8))
	handReceive(t, n, reply(6, 3, 2, 6, 3, 180, false), func(n *impl.Node) { n.Peers[1].Sent = 0 }, ask(3, 2, 3, 6, 10, 6, 8))
	// with Ok: at Start entries go on from there
	handReceive(t, n, reply(6, 1, 2, 6, 7, 0, true), func(n *impl.Node) { n.Peers[0] = peerOf(1, 8, 7, 0) },
		ask(3, 2, 1, 6, 7, 3, 8, none(3), command(4, "a"), none(6)))
	handReceive(t, n, reply(6, 1, 2, 6, 7, 99, true), func(n *impl.Node) { n.Peers[0] = peerOf(1, 8, 7, 0) },
		ask(3, 2, 1, 6, 7, 3, 8, none(3), command(4, "a"), none(6)))
	// an older snapshot than the leader's own by now: the new one begins from 0
	handReceive(t, n, reply(6, 1, 2, 6, 5, 60, true), func(n *impl.Node) { n.Peers[0] = peerOf(1, 6, 5, 0) }, piece(0))
	handReceive(t, n, reply(6, 1, 2, 6, 0, 60, true), func(n *impl.Node) { n.Peers[0] = peerOf(1, 1, 0, 0) }, piece(0))
	// a newer one, and one above the last index, with which Commit goes on
	handReceive(t, n, reply(6, 1, 2, 6, 9, 0, true), func(n *impl.Node) { n.Peers[0] = peerOf(1, 10, 9, 0) }, ask(3, 2, 1, 6, 9, 4, 8, none(6)))
	handReceive(t, n, reply(6, 1, 2, 6, 10, 0, true), func(n *impl.Node) { n.Peers[0], n.Commit = peerOf(1, 11, 10, 0), 10 })
	handReceive(t, n, reply(6, 1, 2, 6, 1000000, 0, true), func(n *impl.Node) { n.Peers[0], n.Commit = peerOf(1, 11, 10, 0), 10 })
	handReceive(t, n, reply(6, 3, 2, 6, 9, 0, true), func(n *impl.Node) { n.Peers[1] = peerOf(3, 10, 9, 0) }, ask(3, 2, 3, 6, 9, 4, 8, none(6)))
}

func TestPropose(t *testing.T) {
	l := logOf(7, 3, none(3), command(4, "a"), none(6))
	n := leader(follower(2, []int{1, 2, 3}, l, 10), peerOf(1, 11, 10, 0), peerOf(3, 6, 5, 9))
	n.Clock, n.Limit = 7, 8
	for _, look := range []struct {
		kind int
		data string
	}{{1, ""}, {3, ""}, {3, "x"}, {3, "\x01\x02"}, {3, allBytes()}, {3, longText(639)}, {3, longText(640)}} {
		e := impl.Entry{Term: 6, Kind: look.kind, Data: look.data}
		a := handPropose(t, n, look.kind, look.data, 11, func(n *impl.Node) { n.Log.Entries = append(n.Log.Entries, e) },
			ask(3, 2, 1, 6, 10, 6, 10, e), install(2, 3, 6, 7, 3, 9, 1, 2, 3))
		// one behind the other, before anything is heard
		handPropose(t, a, look.kind, look.data, 12, func(n *impl.Node) { n.Log.Entries = append(n.Log.Entries, e) },
			ask(3, 2, 1, 6, 10, 6, 10, e, e), install(2, 3, 6, 7, 3, 9, 1, 2, 3))
	}
	// Commit goes on over what most have by now, though it is not the new entry
	behind := leader(follower(2, []int{1, 2, 3}, l, 8), peerOf(1, 11, 10, 0), peerOf(3, 6, 5, 9))
	handPropose(t, behind, 3, "x", 11, func(n *impl.Node) { n.Commit, n.Log.Entries = 10, append(n.Log.Entries, command(6, "x")) },
		ask(3, 2, 1, 6, 10, 6, 10, command(6, "x")), install(2, 3, 6, 7, 3, 9, 1, 2, 3))
	// the term of the new entry is the node's, whatever stands ahead of it
	n.Term = 9
	handPropose(t, n, 3, "x", 11, func(n *impl.Node) { n.Log.Entries = append(n.Log.Entries, command(9, "x")) },
		ask(3, 2, 1, 9, 10, 6, 10, command(9, "x")), install(2, 3, 9, 7, 3, 9, 1, 2, 3))
}

func TestProposeRefuses(t *testing.T) {
	l := logOf(7, 3, none(3), command(4, "a"), none(6))
	base := follower(2, []int{1, 2, 3}, l, 10)
	n := leader(base, peerOf(1, 11, 10, 0), peerOf(3, 6, 5, 9))
	// entries that would not be right
	for _, kind := range append(messageNumbers(), wrongKinds()...) {
		for _, data := range []string{"", "x", "\x01\x02", longText(640), longText(641)} {
			_, _, _, ok := lookAtPropose(t, n, kind, data)
			if right := kind == 1 && data == "" || kind == 2 && data == "\x01\x02" || kind == 3 && len(data) <= 640; ok != right {
				t.Fatalf("to propose %d, %.20q is %v", kind, data, ok)
			}
		}
	}
	for _, data := range []string{"", "\x00", "\x01\x05", "\x02\x01", "\x02\x02", "\x01\x02\x03\x04\x05", "1", longText(20001)} {
		refusePropose(t, n, 2, data)
	}
	refusePropose(t, n, 3, longText(20001))
	// who does not lead
	for _, other := range []impl.Node{base, candidate(base, 2), candidate(base, 1, 2, 3)} {
		refusePropose(t, other, 1, "")
		refusePropose(t, other, 2, "\x01\x02")
		refusePropose(t, other, 3, "x")
	}
	// a log that is full, and the greatest index
	for _, look := range []struct {
		l     impl.Log
		right bool
	}{
		{longLog(0, 0, 58), true}, {longLog(0, 0, 59), true}, {longLog(0, 0, 60), false}, {longLog(999940, 1, 59), true}, {longLog(999940, 1, 60), false},
		{longLog(999998, 1, 1), true}, {longLog(999998, 1, 2), false}, {logOf(999999, 1), true}, {logOf(1000000, 1), false}, {longLog(999950, 1, 49), true}, {longLog(999950, 1, 50), false},
	} {
		l := withoutConfs(look.l)
		last, _ := plainLast(l)
		full := leader(follower(2, []int{1, 2}, l, last), peerOf(1, last+1, 0, 0))
		alone := leader(follower(2, []int{2}, l, l.Start))
		for _, n := range []impl.Node{full, alone} {
			for kind, data := range []string{1: "", 2: "\x01\x02\x03", 3: "x"} {
				if kind == 2 && len(n.Peers) == 0 {
					data = "\x02\x03"
				}
				right := look.right && kind > 0 && (kind != 2 || plainTerm(l, n.Commit) == n.Term)
				if _, _, index, ok := lookAtPropose(t, n, kind, data); ok != right || ok && index != last+1 {
					t.Fatalf("to propose %d to %s is %v, at %d", kind, tellNode(n), ok, index)
				}
			}
		}
	}
}

// each conf in the place of each one: by one node more or one less, and by no other
func TestProposeConf(t *testing.T) {
	rights := 0
	for _, old := range handConfs() {
		for _, next := range handConfs() {
			changes := 0
			for id := 1; id <= 4; id++ {
				if slices.Contains(old.conf, id) != slices.Contains(next.conf, id) {
					changes++
				}
			}
			for id := 1; id <= 4; id++ {
				for way := range 2 {
					// of the beginning, or by an entry
					n := leader(follower(id, old.conf, logOf(7, 3, none(4)), 8))
					if way == 1 {
						n = leader(follower(id, []int{2, 3}, logOf(7, 3, conf(4, old.text), none(4)), 9))
					}
					last, _ := plainLast(n.Log)
					var want []impl.Peer
					for _, other := range old.conf {
						if other != id {
							n.Peers = append(n.Peers, peerOf(other, 4+other, other, 10*other))
						}
					}
					for _, other := range next.conf {
						if other != id && slices.Contains(old.conf, other) {
							want = append(want, peerOf(other, 4+other, other, 10*other))
						} else if other != id {
							want = append(want, peerOf(other, last+1, 0, 0))
						}
					}
					got, told, index, ok := lookAtPropose(t, n, 2, next.text)
					if ok != (changes == 1) {
						t.Fatalf("of %v to propose %v is %v", old.conf, next.conf, ok)
					}
					if !ok {
						continue
					}
					rights++
					// promise 19: a conf changes by one node, and not twice at once
					wantConf(t, "ConfOf behind a new conf", got, impl.ConfOf(got), next.conf)
					wantConf(t, "ConfAt ahead of a new conf", got, impl.ConfAt(got, last), old.conf)
					if index != last+1 || got.Role == 2 && (!slices.Equal(got.Peers, want) || len(told) != len(want)) {
						t.Fatalf("with %v in the place of %v it is %s", next.conf, old.conf, tellNode(got))
					}
					for _, third := range handConfs() {
						if isAlone := got.Commit == index; !isAlone {
							refusePropose(t, got, 2, third.text)
						}
					}
				}
			}
		}
	}
	if rights != 2*4*15*4-2*4*4 {
		t.Errorf("%d changes of the conf are taken", rights)
	}
}

// what must be committed ahead of a new conf
func TestProposeConfInTime(t *testing.T) {
	l := logOf(7, 3, none(3), command(4, "a"), none(6), command(6, "b"))
	n := leader(follower(2, []int{1, 2, 3}, l, 10), peerOf(1, 12, 0, 0), peerOf(3, 12, 10, 9))
	more, less := "\x01\x02\x03\x04", "\x01\x02"
	handPropose(t, n, 2, more, 12, func(n *impl.Node) {
		n.Log.Entries = append(n.Log.Entries, conf(6, more))
		n.Peers = append(n.Peers, peerOf(4, 12, 0, 0))
	}, ask(3, 2, 1, 6, 11, 6, 10, conf(6, more)), ask(3, 2, 3, 6, 11, 6, 10, conf(6, more)), ask(3, 2, 4, 6, 11, 6, 10, conf(6, more)))
	handPropose(t, n, 2, less, 12, func(n *impl.Node) {
		n.Log.Entries = append(n.Log.Entries, conf(6, less))
		n.Peers = n.Peers[:1]
	}, ask(3, 2, 1, 6, 11, 6, 10, conf(6, less)))
	// the peer that goes may be the first, and the node itself
	handPropose(t, n, 2, "\x02\x03", 12, func(n *impl.Node) {
		n.Log.Entries = append(n.Log.Entries, conf(6, "\x02\x03"))
		n.Peers = n.Peers[1:]
	}, ask(3, 2, 3, 6, 11, 6, 10, conf(6, "\x02\x03")))
	handPropose(t, n, 2, "\x01\x03", 12, func(n *impl.Node) { n.Log.Entries = append(n.Log.Entries, conf(6, "\x01\x03")) },
		ask(3, 2, 1, 6, 11, 6, 10, conf(6, "\x01\x03")), ask(3, 2, 3, 6, 11, 6, 10, conf(6, "\x01\x03")))
	// LogTerm of Commit must be Term: of each Commit
	for commit := 7; commit <= 11; commit++ {
		for _, term := range []int{6, 7} {
			c := n
			c.Commit, c.Term = commit, term
			_, _, _, ok := lookAtPropose(t, c, 2, more)
			if ok != (commit >= 10 && term == 6) {
				t.Fatalf("with the Term %d and Commit %d a new conf is %v", term, commit, ok)
			}
			_, _, _, ok = lookAtPropose(t, c, 3, "x")
			if !ok {
				t.Fatalf("with the Term %d and Commit %d a command is refused", term, commit)
			}
		}
	}
	// of Start, too
	settled := leader(follower(1, []int{1, 3}, logOf(7, 3), 7), peerOf(3, 8, 0, 0))
	handPropose(t, settled, 2, "\x01", 8, func(n *impl.Node) { n.Log.Entries, n.Commit, n.Peers = []impl.Entry{conf(3, "\x01")}, 8, nil })
	settled.Term = 4
	refusePropose(t, settled, 2, "\x01")
	// an EntryConf behind Commit, wherever it stands
	for at := range 5 {
		list := slices.Insert(slices.Repeat([]impl.Entry{command(6, "c")}, 4), at, conf(6, "\x01\x02\x03"))
		for commit := 7; commit <= 12; commit++ {
			n := leader(follower(2, []int{1, 2}, logOf(7, 6, list...), commit), peerOf(1, 13, 0, 0), peerOf(3, 13, 0, 0))
			isBehind := 8+at > commit
			for _, data := range []string{more, "\x02\x03", "\x01\x02", "\x01\x03"} {
				if _, _, _, ok := lookAtPropose(t, n, 2, data); ok == isBehind {
					t.Fatalf("with Commit %d and an EntryConf at %d a new one is %v", commit, 8+at, ok)
				}
			}
			refusePropose(t, n, 2, "\x01\x02\x03")
			if _, _, _, ok := lookAtPropose(t, n, 1, ""); !ok {
				t.Fatalf("with Commit %d and an EntryConf at %d an EntryNone is refused", commit, 8+at)
			}
		}
	}
	// two that lead alone: the one that goes is not asked, the one that comes is
	two := leader(follower(1, []int{1, 2}, logOf(0, 0, none(1)), 1), peerOf(2, 2, 1, 0))
	two = handPropose(t, two, 2, "\x01", 2, func(n *impl.Node) {
		n.Log.Entries, n.Commit, n.Peers = []impl.Entry{none(1), conf(1, "\x01")}, 2, nil
	})
	two = handPropose(t, two, 2, "\x01\x03", 3, func(n *impl.Node) {
		n.Log.Entries, n.Peers = append(n.Log.Entries, conf(1, "\x01\x03")), []impl.Peer{peerOf(3, 3, 0, 0)}
	}, ask(3, 1, 3, 1, 2, 1, 2, conf(1, "\x01\x03")))
	refusePropose(t, two, 2, "\x01")
	handReceive(t, two, reply(4, 3, 1, 1, 0, 0, false), func(n *impl.Node) { n.Peers[0].Next = 1 }, ask(3, 1, 3, 1, 0, 0, 2, none(1), conf(1, "\x01"), conf(1, "\x01\x03")))
}

func TestSettle(t *testing.T) {
	l := logOf(7, 3, none(3), conf(4, "\x01\x02"), none(5), conf(5, "\x01\x02\x03"), command(6, "x"))
	base := follower(2, []int{2}, l, 11)
	base.Term, base.Clock, base.Limit, base.Lead = 8, 3, 4, 1
	lead := leader(base, peerOf(1, 13, 12, 0), peerOf(3, 4, 3, 9))
	for _, n := range []impl.Node{base, candidate(base, 2, 3), lead} {
		handSettle(t, n, 7, unchanged)
		for index, want := range map[int]impl.Node{
			8:  {Conf: []int{2}, Log: logOf(8, 3, l.Entries[1:]...)},
			9:  {Conf: []int{1, 2}, Log: logOf(9, 4, l.Entries[2:]...)},
			10: {Conf: []int{1, 2}, Log: logOf(10, 5, l.Entries[3:]...)},
			11: {Conf: []int{1, 2, 3}, Log: logOf(11, 5, l.Entries[4:]...)},
		} {
			got := handSettle(t, n, index, func(n *impl.Node) { n.Conf, n.Log = want.Conf, want.Log })
			wantConf(t, "ConfOf when it is settled", got, impl.ConfOf(got), []int{1, 2, 3})
			// in two steps as in one
			for first := 7; first <= index; first++ {
				half, _ := lookAtSettle(t, n, first)
				if whole, _ := lookAtSettle(t, half, index); !sameNode(whole, got) {
					t.Fatalf("settled at %d and %d it is %s", first, index, tellNode(whole))
				}
			}
		}
		for _, index := range []int{math.MinInt64, -1, 0, 5, 6, 12, 13, 1000000, math.MaxInt64} {
			if got, ok := lookAtSettle(t, n, index); ok || !sameNode(got, impl.Node{}) {
				t.Fatalf("settled at %d %s is %s", index, tellNode(n), tellNode(got))
			}
		}
		n.Commit = 12
		handSettle(t, n, 12, func(n *impl.Node) { n.Conf, n.Log = []int{1, 2, 3}, logOf(12, 6) })
	}
	// every index of a log that is full, and the greatest ones
	for _, l := range []impl.Log{longLog(0, 0, 60), longLog(999940, 1, 60), logOf(1000000, 100000)} {
		last, _ := plainLast(l)
		for index := l.Start - 1; index <= last+1; index++ {
			n := follower(3, []int{1, 4}, l, last)
			got, ok := lookAtSettle(t, n, index)
			if ok != (index >= l.Start && index <= last) || ok && !slices.Equal(impl.ConfOf(got), impl.ConfOf(n)) {
				t.Fatalf("settled at %d %s is %s", index, tellNode(n), tellNode(got))
			}
		}
	}
}

// a right node of any Role: its log short or full, at the beginning or at the greatest indexes
func drawnNode(d *draw) impl.Node {
	n := impl.Node{Id: 1 + d.below(4), Conf: handConfs()[d.below(15)].conf, Limit: 1 + d.below(20), Clock: d.below(21), Vote: d.below(5), Lead: d.below(5)}
	if d.below(3) > 0 {
		n.Conf = []int{1, 2, 3, 4}[:1+d.below(4)]
		n.Id = 1 + d.below(len(n.Conf))
	}
	n.Log.Start, n.Log.StartTerm = []int{0, 1, 3, 7, 500, 999996, 999940}[d.below(7)], d.below(4)
	count := d.below(7)
	if d.below(8) == 0 {
		count = 57 + d.below(4)
	}
	term := n.Log.StartTerm
	for range min(count, 1000000-n.Log.Start) {
		term += max(0, d.below(5)-3)
		switch d.below(6) {
		case 0:
			n.Log.Entries = append(n.Log.Entries, conf(term, handConfs()[d.below(15)].text))
		case 1, 2:
			n.Log.Entries = append(n.Log.Entries, none(term))
		default:
			n.Log.Entries = append(n.Log.Entries, command(term, string([]byte{byte('a' + d.below(26))})))
		}
	}
	last, _ := plainLast(n.Log)
	n.Commit = n.Log.Start + d.below(len(n.Log.Entries)+1)
	n.Term = min(100000, term+max(0, d.below(4)-1))
	if d.below(40) == 0 {
		n.Term = 99999 + d.below(2)
	}
	switch n.Role = d.below(4) & 3 % 3; n.Role {
	case 1:
		for v := 1; v <= 4; v++ {
			if v == n.Id || d.below(3) == 0 {
				n.Votes = append(n.Votes, v)
			}
		}
	case 2:
		for _, id := range plainOthers(n) {
			p := peerOf(id, 1+d.below(last+1), 0, d.below(200)*d.below(2))
			if d.below(3) > 0 {
				p.Next = last + 1 - d.below(min(last, 4)+1)
			}
			p.Match = (p.Next - 1) * d.below(2)
			if d.below(3) == 0 {
				p.Match = d.below(p.Next)
			}
			n.Peers = append(n.Peers, p)
		}
	}
	return n
}

// a right message to a node, of any Kind, near to what the node has
func nearMessage(d *draw, n impl.Node) impl.Message {
	m := impl.Message{Kind: 1 + d.below(6), From: 1 + (n.Id+d.below(3))%4, To: n.Id, Ok: d.below(2) == 0}
	if d.below(3) > 0 {
		// of a Kind that the node's Role is for
		m.Kind = [][]int{{1, 3, 3, 5}, {2, 2, 2, 1}, {4, 4, 6, 6}}[n.Role][d.below(4)]
	}
	m.Term = max(0, min(n.Term+[]int{0, 0, 0, 0, 1, -1, 2}[d.below(7)], 100000))
	last, _ := plainLast(n.Log)
	m.Index = max(0, min(1000000, []int{n.Log.Start - 3, last - 2, last, n.Commit - 1}[d.below(4)]+d.below(5)))
	m.LogTerm = max(0, plainTerm(n.Log, m.Index))
	if d.below(4) == 0 {
		m.LogTerm = d.below(6)
	}
	m.Commit = max(0, min(1000000, n.Commit-2+d.below(8)))
	if d.below(30) == 0 {
		m.Commit = []int{0, 19999, 20000, 20001, 1000000}[d.below(5)]
	}
	switch m.Kind {
	case 3:
		m.Entries = nearEntries(d, n, m)
	case 5:
		m.Conf, m.Data, m.Last = handConfs()[d.below(15)].conf, longText(d.below(61)), d.below(2) == 0
	}
	return m
}

// entries as the node has them, up to where others take their places
func nearEntries(d *draw, n impl.Node, m impl.Message) []impl.Entry {
	var list []impl.Entry
	same := d.below(4) > 0
	for at := range d.below(5) {
		e, ok := plainEntryAt(n.Log, m.Index+1+at)
		if same = same && ok && d.below(6) > 0; !same {
			term := m.LogTerm
			if len(list) > 0 {
				term = list[len(list)-1].Term
			}
			e = drawnEntry(d, term+d.below(3)*d.below(2))
		}
		if e.Term > m.Term || e.Term < m.LogTerm {
			break
		}
		list = append(list, e)
	}
	return list
}

// promise 19: whatever comes to whatever right node
func TestDrawnNodes(t *testing.T) {
	d := draw(19)
	var roles, ticked, kinds, oks [7]int
	for range 60000 {
		n := drawnNode(&d)
		acceptNode(t, n)
		m := nearMessage(&d, n)
		if !plainMessageOk(m) {
			t.Fatalf("%s is not right", tellMessage(m))
		}
		got, told, _ := lookAtReceive(t, n, m)
		kinds[m.Kind]++
		if len(told) > 0 && (told[0].Ok || m.Kind%2 == 0) {
			oks[m.Kind]++
		}
		roles[got.Role]++
		got, _, _ = lookAtTick(t, n, 1+d.below(20))
		ticked[n.Role*3/2+max(0, got.Role-n.Role)]++
		lookAtPropose(t, n, 1+d.below(3), []string{"", "x", handConfs()[d.below(15)].text}[d.below(3)])
		lookAtSettle(t, n, n.Log.Start-1+d.below(len(n.Log.Entries)+3))
		lookAtConfs(t, n, n.Log.Start-1+d.below(len(n.Log.Entries)+3))
	}
	for kind := 1; kind <= 6; kind++ {
		if kinds[kind] < 8000 || kind != 5 && oks[kind] < 800 {
			t.Errorf("of the Kind %d there are %d, and %d of them are met", kind, kinds[kind], oks[kind])
		}
	}
	if min(roles[0], roles[1], roles[2]) < 3000 || min(ticked[0], ticked[1]) < 3000 {
		t.Errorf("Roles %v, behind a tick %v", roles, ticked)
	}
}

// node by node: all that may come to one of few entries
func TestSmallNodes(t *testing.T) {
	logs := []impl.Log{logOf(0, 0), logOf(0, 0, none(1)), logOf(0, 0, none(1), conf(1, "\x02")), logOf(0, 0, none(1), command(2, "x")), logOf(1, 1, none(1)), logOf(1, 1, conf(2, "\x01\x02\x03"), none(2)), logOf(2, 2)}
	var nodes []impl.Node
	for _, l := range logs {
		for _, c := range [][]int{{1}, {2}, {1, 2}, {1, 2, 3}} {
			last, _ := plainLast(l)
			for commit := l.Start; commit <= last; commit++ {
				n := follower(1, c, l, commit)
				n.Limit = 1
				n.Term = max(n.Term, 1)
				nodes = append(nodes, n, changedNode(n, func(n *impl.Node) { n.Vote = 2 }), candidate(n), candidate(n, 1), candidate(n, 1, 3))
				for next := 1; next <= last+1; next++ {
					for match := range next {
						list := leader(n)
						for _, id := range plainOthers(n) {
							list.Peers = append(list.Peers, peerOf(id, next, match, 3))
						}
						nodes = append(nodes, list)
					}
				}
			}
		}
	}
	entries := [][]impl.Entry{nil, {none(1)}, {none(2)}, {none(1), none(2)}, {conf(1, "\x02"), none(1)}, {none(2), none(2), none(2)}}
	d := draw(1919)
	for _, n := range nodes {
		acceptNode(t, n)
		lookAtTick(t, n, 1+d.below(20))
		for kind := 1; kind <= 3; kind++ {
			lookAtPropose(t, n, kind, []string{"", "", "\x01\x02", "x"}[kind])
		}
		for index := 0; index <= 4; index++ {
			lookAtSettle(t, n, index)
		}
		for term := n.Term - 1; term <= n.Term+1; term++ {
			for index := 0; index <= 3; index++ {
				for kind := 1; kind <= 6; kind++ {
					m := impl.Message{Kind: kind, From: 2 + d.below(2), To: 1, Term: term, Index: index}
					for m.LogTerm = range 3 {
						for range 2 {
							m.Commit, m.Ok = d.below(5), !m.Ok
							if kind == 5 {
								m.Conf = []int{2}
							} else if kind == 3 {
								m.Entries = entries[d.below(len(entries))]
							}
							if plainMessageOk(m) {
								lookAtReceive(t, n, m)
							}
						}
					}
				}
			}
		}
	}
}

// a hall of nodes, by their Ids, and what is on its way between them
type hall struct {
	nodes   [5]impl.Node
	air     []impl.Message
	leaders map[int]int
	votes   map[[2]int]int
	agreed  map[int]impl.Entry
	seen    map[string]int
}

func hallOf(nodes []int) *hall {
	h := hall{leaders: map[int]int{}, votes: map[[2]int]int{}, agreed: map[int]impl.Entry{}, seen: map[string]int{}}
	for id := 1; id <= 4; id++ {
		h.nodes[id], _ = impl.NodeNew(id, nodes)
		h.nodes[id].Limit = 2 + id
	}
	return &h
}

// a node goes on: no Term has two leaders, none votes twice in one, and no index that is committed has two entries
func (h *hall) goesOn(t *testing.T, after impl.Node, told []impl.Message) {
	t.Helper()
	before := h.nodes[after.Id]
	h.nodes[after.Id] = after
	h.air = append(h.air, told...)
	if after.Role == 2 {
		if h.leaders[after.Term] == 0 {
			h.leaders[after.Term] = after.Id
			h.seen["led"]++
		}
		if h.leaders[after.Term] != after.Id {
			t.Fatalf("%d leads the Term %d, and so does %s", h.leaders[after.Term], after.Term, tellNode(after))
		}
	}
	if before.Role == 2 && after.Role == 0 && before.Term == after.Term {
		h.seen["back"]++
	}
	at := [2]int{after.Id, after.Term}
	if after.Vote != 0 && h.votes[at] != 0 && h.votes[at] != after.Vote {
		t.Fatalf("it voted for %d, and is %s", h.votes[at], tellNode(after))
	}
	h.votes[at] = max(h.votes[at], after.Vote)
	for index := after.Log.Start + 1; index <= after.Commit; index++ {
		e, _ := plainEntryAt(after.Log, index)
		old, isThere := h.agreed[index]
		if isThere && old != e {
			t.Fatalf("at %d it was agreed on %v, and it is %s", index, old, tellNode(after))
		}
		if !isThere && e.Kind == 2 {
			h.seen["confs"]++
		}
		h.agreed[index] = e
	}
}

func (h *hall) ticks(t *testing.T, d *draw, id int) {
	t.Helper()
	after, told, _ := lookAtTick(t, h.nodes[id], 2+d.below(5))
	h.goesOn(t, after, told)
}

func (h *hall) hears(t *testing.T, d *draw, m impl.Message) {
	t.Helper()
	before := h.nodes[m.To]
	after, told, ok := lookAtReceive(t, before, m)
	if !ok {
		t.Fatalf("%s refuses %s", tellNode(before), tellMessage(m))
	}
	if m.Kind == 5 && m.Term == after.Term {
		after, told = h.installs(d, after, m)
	}
	h.goesOn(t, after, told)
}

// what a server does with an AskInstall: it takes some of them, or the whole one
func (h *hall) installs(d *draw, n impl.Node, m impl.Message) (impl.Node, []impl.Message) {
	ok := m.Index <= n.Commit || d.below(2) == 0
	said := reply(6, n.Id, m.From, n.Term, m.Index, 0, ok)
	if !ok {
		said.Commit = 60 * d.below(3)
	} else if m.Index > n.Commit {
		n.Log, n.Conf, n.Commit = plainBehind(n.Log, m.Index, m.LogTerm), slices.Clone(m.Conf), m.Index
		h.seen["installed"]++
	}
	return n, []impl.Message{said}
}

func (h *hall) proposes(t *testing.T, d *draw, id int) {
	t.Helper()
	kind, data := 3, string([]byte{byte('a' + d.below(26)), byte(len(h.agreed))})
	if d.below(4) == 0 {
		kind, data = 2, handConfs()[d.below(15)].text
	}
	if after, told, _, ok := lookAtPropose(t, h.nodes[id], kind, data); ok {
		h.goesOn(t, after, told)
	}
}

func (h *hall) settles(t *testing.T, d *draw, id int) {
	t.Helper()
	n := h.nodes[id]
	if n.Commit > n.Log.Start+4 {
		after, _ := lookAtSettle(t, n, n.Commit-d.below(4))
		h.goesOn(t, after, nil)
		h.seen["settled"]++
	}
}

// a node falls, and comes up again with what a disk keeps
func (h *hall) falls(id int) {
	n := h.nodes[id]
	h.nodes[id] = impl.Node{Id: id, Term: n.Term, Vote: n.Vote, Conf: n.Conf, Log: n.Log, Commit: n.Log.Start, Limit: 3}
}

// one message of the air: told, told twice, late or lost
func (h *hall) delivers(t *testing.T, d *draw, late bool) {
	t.Helper()
	if len(h.air) == 0 {
		return
	}
	at := 0
	if late {
		at = d.below(len(h.air))
	}
	m := h.air[at]
	switch fate := d.below(12); {
	case fate == 0:
		h.air = slices.Delete(h.air, at, at+1)
	case fate == 1:
		h.hears(t, d, m)
	default:
		h.air = slices.Delete(h.air, at, at+1)
		h.hears(t, d, m)
	}
}

// promise 19 in lives of up to four nodes, whatever is lost, told twice or late, and whoever falls
func TestLivesOfNodes(t *testing.T) {
	d := draw(190)
	all := map[string]int{}
	for life := range 600 {
		h := hallOf(handConfs()[14-life%12].conf)
		calm := life%3 == 0
		for range 500 {
			id := 1 + d.below(4)
			switch act := d.below(20); {
			case act < 5:
				h.ticks(t, &d, id)
			case act < 17:
				h.delivers(t, &d, !calm)
			case act == 17:
				if lead := slices.IndexFunc(h.nodes[:], func(n impl.Node) bool { return n.Role == 2 }); lead > 0 {
					id = lead
				}
				h.proposes(t, &d, id)
			case act == 18:
				h.settles(t, &d, id)
			case !calm && d.below(3) == 0:
				h.falls(id)
			}
			for len(h.air) > 30 {
				h.air = slices.Delete(h.air, 0, 10)
			}
		}
		all["agreed"] += len(h.agreed)
		for what, count := range h.seen {
			all[what] += count
		}
	}
	for what, least := range map[string]int{"agreed": 5000, "led": 1000, "confs": 250, "settled": 1000, "installed": 80, "back": 50} {
		if all[what] < least {
			t.Errorf("%s: just %d", what, all[what])
		}
	}
}

// nodes of any fields
func strangeNode(d *draw) impl.Node {
	number := func() int {
		if d.below(6) == 0 {
			return someNumbers()[d.below(len(someNumbers()))]
		}
		return d.below(5)
	}
	n := impl.Node{Id: number(), Term: number(), Vote: number(), Role: number(), Lead: number(), Commit: number(), Clock: number(), Limit: number()}
	n.Log.Start, n.Log.StartTerm = number(), number()
	n.Conf = handConfs()[d.below(15)].conf
	if d.below(4) == 0 {
		n.Conf = someWrongConfs()[d.below(len(someWrongConfs()))]
	}
	for range []int{0, 0, 1, 2, 3, 61}[d.below(6)] {
		e := impl.Entry{Term: number(), Kind: number(), Data: someData()[d.below(30)]}
		if d.below(2) == 0 {
			e = drawnEntry(d, d.below(6))
		}
		n.Log.Entries = append(n.Log.Entries, e)
	}
	for range []int{0, 0, 0, 1, 2, 5}[d.below(6)] {
		n.Votes = append(n.Votes, number())
	}
	for range []int{0, 0, 0, 1, 2, 5}[d.below(6)] {
		n.Peers = append(n.Peers, peerOf(number(), number(), number(), number()))
	}
	return n
}

// a right node with one field of another one
func spoiltNode(d *draw) impl.Node {
	n, other := drawnNode(d), strangeNode(d)
	fields := []func(){
		func() { n.Id = other.Id }, func() { n.Term = other.Term }, func() { n.Vote = other.Vote }, func() { n.Role = other.Role }, func() { n.Lead = other.Lead },
		func() { n.Conf = other.Conf }, func() { n.Log = other.Log }, func() { n.Log.Start = other.Log.Start }, func() { n.Log.StartTerm = other.Log.StartTerm }, func() { n.Log.Entries = other.Log.Entries },
		func() { n.Commit = other.Commit }, func() { n.Clock = other.Clock }, func() { n.Limit = other.Limit }, func() { n.Votes = other.Votes }, func() { n.Peers = other.Peers },
	}
	fields[d.below(len(fields))]()
	return n
}

// each function answers at whatever arguments
func TestStrangeNodes(t *testing.T) {
	d := draw(2019)
	rights := 0
	for at := range 24000 {
		n := strangeNode(&d)
		if at%2 == 0 {
			n = spoiltNode(&d)
		}
		right := plainNodeOk(n)
		if impl.NodeOk(n) != right {
			t.Fatalf("NodeOk(%s) = %v", tellNode(n), !right)
		}
		if right {
			rights++
		}
		lookAtTick(t, n, d.below(3))
		m := strangeMessage(&d)
		if d.below(4) > 0 {
			m = drawnMessage(&d, 1+d.below(6))
		}
		if d.below(4) > 0 {
			m.To = n.Id
		}
		lookAtReceive(t, n, m)
		number := someNumbers()[d.below(len(someNumbers()))]
		kind := d.below(5)
		if d.below(6) == 0 {
			kind = number
		}
		lookAtPropose(t, n, kind, someData()[d.below(30)])
		lookAtSettle(t, n, []int{n.Commit, n.Log.Start, number}[d.below(3)])
		lookAtConfs(t, n, number, n.Commit, n.Log.Start+d.below(4))
	}
	if rights < 3000 || rights > 20000 {
		t.Errorf("%d of 24000 are right", rights)
	}
}

// long lists, of which no right node has any
func TestGreatNodes(t *testing.T) {
	long := make([]int, 200000)
	for at := range long {
		long[at] = 1 + at%4
	}
	refuseNode(t, impl.Node{Id: 1, Conf: long, Limit: 1})
	refuseNode(t, impl.Node{Id: 1, Conf: []int{1}, Limit: 1, Role: 1, Votes: long})
	refuseNode(t, impl.Node{Id: 1, Conf: []int{1, 2}, Limit: 1, Role: 2, Peers: slices.Repeat([]impl.Peer{peerOf(2, 1, 0, 0)}, 100000)})
	refuseNode(t, impl.Node{Id: 1, Conf: []int{1, 2}, Limit: 1, Log: logOf(0, 0, slices.Repeat([]impl.Entry{conf(0, "\x01\x02\x03")}, 3000)...)})
	n, _ := impl.NodeNew(1, []int{1, 2})
	m := ask(3, 2, 1, 1, 0, 0, 0, slices.Repeat([]impl.Entry{none(1)}, 100000)...)
	refuseReceive(t, n, m)
	if _, ok := impl.NodeNew(1, long); ok {
		t.Error("a long conf makes a node")
	}
}

// a node with room behind its lists, and a look at whether all of it is as it was
func roomyNode(from impl.Node) (impl.Node, func() bool) {
	n := from
	nodes, nodesUntouched := roomyNumbers(from.Conf)
	votes, votesUntouched := roomyNumbers(from.Votes)
	l, logUntouched := roomyLog(from.Log)
	peers := append(make([]impl.Peer, 0, len(from.Peers)+9), from.Peers...)
	room := peers[:cap(peers)]
	for at := len(peers); at < len(room); at++ {
		room[at] = peerOf(-at, -at, -at, -at)
	}
	before := slices.Clone(room)
	n.Conf, n.Votes, n.Log, n.Peers = nodes, votes, l, peers
	return n, func() bool {
		return nodesUntouched() && votesUntouched() && logUntouched() && slices.Equal(room, before) && sameNode(n, from)
	}
}

func scribbleNode(n impl.Node) {
	scribbleConf(n.Conf)
	scribbleConf(n.Votes)
	scribbleLog(n.Log)
	all := n.Peers[:cap(n.Peers)]
	for at := range all {
		all[at] = peerOf(-77, -77, -77, -77)
	}
}

// what one call answers: a node, and what is told
type coreAnswer struct {
	node impl.Node
	told []impl.Message
}

func (a coreAnswer) copied() coreAnswer {
	told := slices.Clone(a.told)
	for at, m := range told {
		told[at] = copyMessage(m)
	}
	return coreAnswer{copyNode(a.node), told}
}

func (a coreAnswer) isAs(b coreAnswer) bool {
	return sameNode(a.node, b.node) && sameMessages(a.told, b.told)
}

func (a coreAnswer) scribble() {
	scribbleNode(a.node)
	for _, m := range a.told {
		scribbleMessage(m)
	}
	for at := range a.told[:cap(a.told)] {
		a.told[:cap(a.told)][at] = impl.Message{Kind: -7}
	}
}

// each list of an answer, with what puts something behind it and what writes all over it
func (a coreAnswer) lists() []func() {
	grow := func(list []int) func() {
		return func() {
			_ = append(list, -9, -9, -9, -9)
			scribbleConf(list)
		}
	}
	growLog := func(list []impl.Entry) func() {
		return func() {
			_ = append(list, none(-9), none(-9), none(-9), none(-9), none(-9))
			scribbleLog(logOf(0, 0, list...))
		}
	}
	lists := []func(){grow(a.node.Conf), grow(a.node.Votes), growLog(a.node.Log.Entries), func() {
		_ = append(a.node.Peers, peerOf(-9, -9, -9, -9), peerOf(-9, -9, -9, -9))
		scribbleNode(impl.Node{Peers: a.node.Peers})
	}}
	for _, m := range a.told {
		lists = append(lists, grow(m.Conf), growLog(m.Entries))
	}
	return lists
}

func (a coreAnswer) texts() []string {
	var list []string
	for _, e := range a.node.Log.Entries {
		list = append(list, e.Data)
	}
	for _, m := range a.told {
		list = append(list, textsOfMessage(m)...)
	}
	return list
}

// calls of all kinds at a node and a message
func coreCalls(n impl.Node, m impl.Message, data string) []func() coreAnswer {
	return []func() coreAnswer{
		func() coreAnswer { after, told, _ := impl.Tick(n, 3); return coreAnswer{after, told} },
		func() coreAnswer { after, told, _ := impl.Receive(n, m); return coreAnswer{after, told} },
		func() coreAnswer { after, told, _, _ := impl.Propose(n, 3, data); return coreAnswer{after, told} },
		func() coreAnswer {
			after, told, _, _ := impl.Propose(n, 2, "\x01\x02\x03\x04")
			return coreAnswer{after, told}
		},
		func() coreAnswer { after, _ := impl.Settle(n, n.Commit); return coreAnswer{node: after} },
		func() coreAnswer { after, _ := impl.NodeNew(n.Id, n.Conf); return coreAnswer{node: after} },
		func() coreAnswer {
			return coreAnswer{node: impl.Node{Conf: impl.ConfOf(n), Votes: impl.ConfAt(n, n.Commit)}}
		},
		func() coreAnswer { impl.NodeOk(n); return coreAnswer{} },
	}
}

// nodes and messages of which all lists and texts are told and kept
func sharedCores() ([]impl.Node, []impl.Message) {
	text := func(s string) string { return strings.Clone(s) }
	l := logOf(7, 3, none(3), command(4, text("alpha")), conf(6, text("\x01\x02\x03")), command(6, text("beta")), command(6, text("gamma")))
	base := follower(2, []int{1, 2, 4}, l, 10)
	base.Clock = 20
	lead := leader(base, peerOf(1, 9, 0, 0), peerOf(3, 3, 0, 60))
	stands := candidate(base, 2)
	nodes := []impl.Node{base, base, base, stands, stands, lead, lead, lead, lead, lead, leader(follower(1, []int{1}, l, 10)), follower(2, []int{2}, logOf(0, 0), 0)}
	nodes[10].Peers = []impl.Peer{peerOf(2, 9, 8, 0), peerOf(3, 3, 0, 60)}
	messages := []impl.Message{
		ask(3, 1, 2, 6, 10, 6, 12, command(6, text("delta")), command(6, text("epsilon"))), ask(3, 1, 2, 6, 11, 6, 12, command(6, text("delta"))), install(1, 2, 6, 20, 6, 0, 1, 2, 3),
		reply(2, 1, 2, 6, 0, 0, true), ask(1, 1, 2, 7, 20, 7, 0),
		reply(4, 1, 2, 6, 10, 0, true), reply(4, 1, 2, 6, 7, 0, false), reply(6, 3, 2, 6, 7, 60, false), reply(6, 3, 2, 6, 9, 60, true), ask(3, 1, 2, 7, 12, 6, 12, command(7, text("delta"))),
		reply(4, 2, 1, 6, 12, 0, true), ask(3, 1, 2, 6, 0, 0, 12, command(6, text("delta"))),
	}
	d := draw(77)
	for range 60 {
		n := drawnNode(&d)
		nodes = append(nodes, n)
		messages = append(messages, nearMessage(&d, n))
	}
	return nodes, messages
}

// nothing is written into what is handed in, nor kept of it, and no answer shares with it or with another one
func TestCoreIsNewMemory(t *testing.T) {
	nodes, messages := sharedCores()
	told := 0
	for at, from := range nodes {
		n, nodeUntouched := roomyNode(from)
		m, messageUntouched := roomyMessage(messages[at])
		data := strings.Clone("proposed")
		for which, call := range coreCalls(n, m, data) {
			what := fmt.Sprintf("the call %d at %s, %s", which, tellNode(from), tellMessage(m))
			first := call()
			want := first.copied()
			second := call()
			told += len(first.told)
			if !nodeUntouched() || !messageUntouched() || !first.isAs(want) || !second.isAs(want) {
				t.Fatalf("%s writes, or answers in two ways", what)
			}
			for list := range first.lists() {
				// one list written into, all others stay
				other := call()
				other.lists()[list]()
				others := 0
				for again := range want.lists() {
					if again != list && !sameListOf(other, want, again) {
						others++
					}
				}
				if others > 0 || !first.isAs(want) || !nodeUntouched() || !messageUntouched() {
					t.Fatalf("%s shares the list %d", what, list)
				}
			}
			texts := first.texts()
			given := append(append(coreAnswer{node: n, told: []impl.Message{m}}.texts(), data), second.texts()...)
			for at, text := range texts {
				for _, other := range slices.Concat(given, texts[:at]) {
					// a text of one byte may be the library's own, whoever asks for it
					if len(text) > 1 && sharesBytes(text, other) {
						t.Fatalf("%s shares the text %.20q", what, text)
					}
				}
			}
			first.scribble()
			if !nodeUntouched() || !messageUntouched() || !second.isAs(want) || !call().isAs(want) {
				t.Fatalf("%s shares memory", what)
			}
		}
	}
	if told < 100 {
		t.Errorf("just %d messages are told", told)
	}
}

// whether the list of this place, as lists tells them, is the same in both
func sameListOf(a, b coreAnswer, at int) bool {
	switch at {
	case 0:
		return slices.Equal(a.node.Conf, b.node.Conf)
	case 1:
		return slices.Equal(a.node.Votes, b.node.Votes)
	case 2:
		return sameLog(a.node.Log, b.node.Log)
	case 3:
		return slices.Equal(a.node.Peers, b.node.Peers)
	}
	if at%2 == 0 {
		return slices.Equal(a.told[at/2-2].Conf, b.told[at/2-2].Conf)
	}
	return slices.Equal(a.told[at/2-2].Entries, b.told[at/2-2].Entries)
}

// an empty list and nil are the same value
func TestCoreOfEmptyLists(t *testing.T) {
	nodes, messages := sharedCores()
	nodes = append(nodes, impl.Node{}, impl.Node{Id: 1, Conf: []int{1}, Limit: 1}, impl.Node{Id: 1, Conf: []int{1}, Limit: 1, Role: 1}, impl.Node{Id: 1, Conf: []int{1}, Limit: 1, Role: 2})
	for at, from := range nodes {
		m := messages[at%len(messages)]
		for way := range 4 {
			n := from
			if len(n.Conf) == 0 {
				n.Conf = [][]int{nil, {}, nil, make([]int, 0, 9)}[way]
			}
			if len(n.Votes) == 0 {
				n.Votes = [][]int{nil, {}, make([]int, 0, 9), nil}[way]
			}
			if len(n.Log.Entries) == 0 {
				n.Log.Entries = [][]impl.Entry{nil, {}, make([]impl.Entry, 0, 9), nil}[way]
			}
			if len(n.Peers) == 0 {
				n.Peers = [][]impl.Peer{nil, {}, nil, make([]impl.Peer, 0, 9)}[way]
			}
			if len(m.Entries) == 0 {
				m.Entries = [][]impl.Entry{{}, nil, nil, make([]impl.Entry, 0, 9)}[way]
			}
			if impl.NodeOk(n) != plainNodeOk(from) {
				t.Fatalf("NodeOk(%s) = %v", tellNode(n), impl.NodeOk(n))
			}
			lookAtTick(t, n, 3)
			lookAtReceive(t, n, m)
			lookAtPropose(t, n, 1, "")
			lookAtSettle(t, n, n.Commit)
			lookAtConfs(t, n, n.Commit)
		}
	}
}

// what one call answers has no part in what the next one does, in whichever order they come
func TestCoreKeepsNothing(t *testing.T) {
	nodes, messages := sharedCores()
	for round := range 3 {
		for at := range nodes {
			n := nodes[(at*7+round*3)%len(nodes)]
			other := nodes[(at+round)%len(nodes)]
			m := messages[(at*7+round*3)%len(nodes)]
			lookAtReceive(t, n, m)
			lookAtReceive(t, other, m)
			lookAtTick(t, n, 1+at%20)
			lookAtPropose(t, other, 3, "kept")
			lookAtTick(t, other, at%21)
			lookAtSettle(t, n, other.Commit)
			lookAtReceive(t, n, messages[at])
			lookAtPropose(t, n, 2, "\x01\x02")
		}
	}
}

// what follows of what: each answer is handed on, and stays as it was
func TestCoreInARow(t *testing.T) {
	n, _ := impl.NodeNew(1, []int{1, 2, 3})
	n.Limit = 1
	var answers, copies []coreAnswer
	step := func(after impl.Node, told []impl.Message, ok bool) impl.Node {
		if !ok {
			t.Fatalf("%s: a step is false", tellNode(n))
		}
		a := coreAnswer{after, told}
		answers, copies = append(answers, a), append(copies, a.copied())
		return after
	}
	n = step(impl.Tick(n, 5))
	n = step(impl.Receive(n, reply(2, 3, 1, 1, 0, 0, true)))
	for at := range 6 {
		after, told, _, ok := impl.Propose(n, 3, fmt.Sprint("step ", at))
		n = step(after, told, ok)
		n = step(impl.Receive(n, reply(4, 2, 1, 1, at+1, 0, true)))
		n = step(impl.Tick(n, 5))
	}
	after, ok := impl.Settle(n, 4)
	n = step(after, nil, ok)
	n = step(impl.Receive(n, reply(4, 3, 1, 1, 0, 0, false)))
	n = step(impl.Receive(n, ask(3, 2, 1, 2, 6, 1, 7, command(2, "other"))))
	if n.Commit != 7 || n.Role != 0 || n.Log.Start != 4 || len(n.Log.Entries) != 3 {
		t.Errorf("in the end it is %s", tellNode(n))
	}
	for at := range answers {
		if !answers[at].isAs(copies[at]) {
			t.Fatalf("the answer %d has become %s", at, tellNode(answers[at].node))
		}
	}
	for at := range answers {
		answers[at].scribble()
		for behind := at + 1; behind < len(answers); behind++ {
			if !answers[behind].isAs(copies[behind]) {
				t.Fatalf("the answers %d and %d share memory", at, behind)
			}
		}
	}
}
