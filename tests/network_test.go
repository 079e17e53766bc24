package tests

import (
	"math"
	"slices"
	"testing"

	"loop.example/collabdoc/impl"
)

// story is a network in which each author has done something, and some messages are on their way or lost.
var story = []string{
	"a has 1a block - - 1", "a has 2a text 1a - x", "a awaits 3 4b erase 2a",
	"b has 1a block - - 1", "b has 3b kind 1a 2", "b has 4b erase 2a",
	"c has 1a block - - 1", "c has 2c text 1a - y",
	"to c 1 2a text 1a - x", "to a 0 3b kind 1a 2", "to c 3 4b erase 2a", "to b 0 2c text 1a - y",
}

// editOf returns the event that an author edits. The operation is given by its text form without the ID.
func editOf(t *testing.T, who int, text string) impl.Event {
	t.Helper()
	o := ops(t, "99c "+text)[0]
	o.ID = impl.Stamp{}
	return impl.Event{Kind: impl.EventEdit, Index: who, Op: o}
}

func deliver(index int) impl.Event {
	return impl.Event{Kind: impl.EventDeliver, Index: index}
}

func duplicate(index int) impl.Event {
	return impl.Event{Kind: impl.EventDuplicate, Index: index}
}

func drop(index int) impl.Event {
	return impl.Event{Kind: impl.EventDrop, Index: index}
}

// dropPackets returns n packets to author c.
func dropPackets(n int) []impl.Packet {
	list := []impl.Packet{}
	for _, m := range dropMessages(2, n, 0) {
		list = append(list, impl.Packet{To: 2, Message: m})
	}
	return list
}

// badNetworks returns networks that are not valid, each with one defect.
func badNetworks(t *testing.T) []impl.Network {
	good := networkOf(t, story...)
	bad := []impl.Network{{}, {Packets: good.Packets}, {Replicas: good.Replicas[:1]}, {Replicas: good.Replicas[:2]}, {Replicas: good.Replicas[1:]}}
	for who := range impl.MaxAuthors + 1 {
		bad = append(bad, impl.Network{Replicas: append(slices.Clone(good.Replicas), impl.Replica{Author: who})})
	}
	for _, order := range [][]int{{1, 0, 2}, {0, 2, 1}, {2, 1, 0}, {1, 2, 0}, {0, 0, 0}, {0, 0, 2}, {0, 1, 1}, {1, 1, 2}} {
		var n impl.Network
		for _, who := range order {
			n.Replicas = append(n.Replicas, impl.Replica{Author: who})
		}
		bad = append(bad, n)
	}
	for _, r := range badReplicas(t) {
		for who := range impl.MaxAuthors {
			n := copyOfNetwork(good)
			n.Replicas[who] = r
			bad = append(bad, n)
		}
	}
	spoil := func(p impl.Packet) {
		for _, i := range []int{0, 1, len(good.Packets)} {
			n := copyOfNetwork(good)
			n.Packets = slices.Insert(n.Packets, i, p)
			bad = append(bad, n)
		}
	}
	for _, to := range []int{-1, impl.MaxAuthors, math.MinInt, math.MaxInt} {
		spoil(impl.Packet{To: to, Message: good.Packets[0].Message})
	}
	for _, m := range badMessages(t) {
		spoil(impl.Packet{To: 1, Message: m})
	}
	for _, n := range []int{41, 60} {
		bad = append(bad, impl.Network{Replicas: good.Replicas, Packets: dropPackets(n)})
	}
	return bad
}

func TestValidNetwork(t *testing.T) {
	full := impl.Network{Packets: dropPackets(40)}
	for who := range impl.MaxAuthors {
		full.Replicas = append(full.Replicas, impl.Replica{Author: who, Log: dropOps(2, impl.MaxOps, who), Pending: dropMessages(50, impl.MaxPending, who)})
	}
	for _, n := range []impl.Network{
		emptyNetwork(), networkOf(t, story...), full,
		// Packets to each author, also to the one that the message is from, twice the same, and one whose operation the log has.
		networkOf(t, "a has 1a block - - 1", "to a 0 1a block - - 1", "to b 0 1a block - - 1", "to b 0 1a block - - 1", "to c 0 1a block - - 1", "to c 98 99c drop 98c"),
	} {
		if !impl.ValidNetwork(n) {
			t.Errorf("ValidNetwork(%v) = false", n)
		}
	}
	for _, n := range badNetworks(t) {
		if impl.ValidNetwork(n) {
			t.Errorf("ValidNetwork(%v) = true", n)
		}
	}
}

func TestNewNetwork(t *testing.T) {
	if n := impl.NewNetwork(); !sameNetwork(n, emptyNetwork()) || !impl.ValidNetwork(n) {
		t.Errorf("NewNetwork() = %v", n)
	}
}

// checkStep fails the test if an event does not make a network what is wanted, or is not reported as possible or impossible as wanted.
func checkStep(t *testing.T, n impl.Network, e impl.Event, want impl.Network, wantOK bool) {
	t.Helper()
	if got, ok := impl.NetworkStep(n, e); ok != wantOK || !sameNetwork(got, want) {
		t.Errorf("NetworkStep(%v) of\n%sis %v\n%swant %v\n%s", e, networkText(n), ok, networkText(got), wantOK, networkText(want))
	}
}

func TestP46Edits(t *testing.T) {
	block := "block - - 1"
	checkStep(t, emptyNetwork(), editOf(t, 0, block), networkOf(t, "a has 1a block - - 1", "to b 0 1a block - - 1", "to c 0 1a block - - 1"), true)
	checkStep(t, emptyNetwork(), editOf(t, 1, block), networkOf(t, "b has 1b block - - 1", "to a 0 1b block - - 1", "to c 0 1b block - - 1"), true)
	checkStep(t, emptyNetwork(), editOf(t, 2, block), networkOf(t, "c has 1c block - - 1", "to a 0 1c block - - 1", "to b 0 1c block - - 1"), true)
	n := networkOf(t, story...)
	checkStep(t, n, editOf(t, 1, "text 1a - z"), networkOf(t, append(slices.Clone(story), "b has 5b text 1a - z", "to a 4 5b text 1a - z", "to c 4 5b text 1a - z")...), true)
	checkStep(t, n, editOf(t, 2, "erase 2c"), networkOf(t, append(slices.Clone(story), "c has 3c erase 2c", "to a 2 3c erase 2c", "to b 2 3c erase 2c")...), true)
	// The ID that the operation comes with does not matter.
	for _, id := range append(badStamps(), at(1, 0), at(3, 1), at(50, 2)) {
		e := editOf(t, 2, "erase 2c")
		e.Op.ID = id
		checkStep(t, n, e, networkOf(t, append(slices.Clone(story), "c has 3c erase 2c", "to a 2 3c erase 2c", "to b 2 3c erase 2c")...), true)
	}
	// A message that waits for the edit is applied, too, but its operation is not sent again.
	waiting := []string{"a has 1a block - - 1", "a awaits 0 3b text 1a 2a z"}
	after := []string{"a has 1a block - - 1", "a has 2a text 1a - x", "a has 3b text 1a 2a z", "to b 1 2a text 1a - x", "to c 1 2a text 1a - x"}
	checkStep(t, networkOf(t, waiting...), editOf(t, 0, "text 1a - x"), networkOf(t, after...), true)
}

func TestP46EditsWhenThereIsNoRoomForPackets(t *testing.T) {
	for who, packets := range []string{"to b 0 1a block - - 1", "to a 0 1b block - - 1", "to a 0 1c block - - 1"} {
		for before := 36; before <= 40; before++ {
			n := emptyNetwork()
			n.Packets = dropPackets(before)
			want, _ := modelStep(emptyNetwork(), editOf(t, who, "block - - 1"))
			want.Packets = append(dropPackets(before), want.Packets[:min(2, 40-before)]...)
			checkStep(t, n, editOf(t, who, "block - - 1"), want, true)
			if before == 39 && want.Packets[39] != networkOf(t, packets).Packets[0] {
				t.Errorf("the last packet is %v", want.Packets[39])
			}
		}
	}
}

func TestP46ImpossibleEdits(t *testing.T) {
	n := networkOf(t, story...)
	for _, who := range []int{-1, impl.MaxAuthors, impl.MaxAuthors + 1, math.MinInt, math.MaxInt} {
		checkStep(t, n, editOf(t, who, "text 1a - z"), n, false)
	}
	for _, o := range []impl.Op{{}, {Kind: impl.OpInsert}, {Kind: 11, Value: 'x'}, {Kind: impl.OpInsert, Value: 'x', Text: "word"}, {Kind: impl.OpDelete, Target: at(4, 0)}} {
		for who := range impl.MaxAuthors {
			checkStep(t, n, impl.Event{Kind: impl.EventEdit, Index: who, Op: o}, n, false)
		}
	}
	// What the operation refers to is not in the log of the author: it is in that of another one, pending, or in a packet.
	checkStep(t, n, editOf(t, 1, "erase 2a"), n, false)
	checkStep(t, n, editOf(t, 2, "erase 2a"), n, false)
	checkStep(t, n, editOf(t, 0, "undo 4b off"), n, false)
	checkStep(t, n, editOf(t, 1, "erase 2c"), n, false)
	full, last := emptyNetwork(), networkOf(t, "b has 99c block - - 1")
	full.Replicas[1].Log = dropOps(2, impl.MaxOps, 0)
	checkStep(t, full, editOf(t, 1, "text - - x"), full, false)
	checkStep(t, last, editOf(t, 1, "text - - x"), last, false)
	// The other authors are not concerned.
	want, _ := modelStep(last, editOf(t, 0, "text - - x"))
	checkStep(t, last, editOf(t, 0, "text - - x"), want, true)
}

// without returns lines without one of them.
func without(lines []string, line string) []string {
	i := slices.Index(lines, line)
	return slices.Concat(lines[:i], lines[i+1:])
}

func TestP46Deliveries(t *testing.T) {
	n := networkOf(t, story...)
	for i, arrived := range [][]string{
		{"to c 1 2a text 1a - x", "c has 2a text 1a - x"},
		// Another message that is pending does not become ready, or does.
		{"to a 0 3b kind 1a 2", "a has 3b kind 1a 2", "a has 4b erase 2a"},
		{"to c 3 4b erase 2a", "c awaits 3 4b erase 2a"},
		{"to b 0 2c text 1a - y", "b has 2c text 1a - y"},
	} {
		kept := append(slices.Clone(story), arrived[1:]...)
		if i == 1 {
			kept = without(kept, "a awaits 3 4b erase 2a")
		}
		sent, left := networkOf(t, kept...), networkOf(t, without(kept, arrived[0])...)
		for who := range impl.MaxAuthors {
			sortOps(sent.Replicas[who].Log)
			sortOps(left.Replicas[who].Log)
		}
		checkStep(t, n, deliver(i), left, true)
		checkStep(t, n, duplicate(i), sent, true)
		checkStep(t, n, drop(i), networkOf(t, without(story, arrived[0])...), true)
	}
	// A packet may be on its way to the author of the message. The Op of the event does not matter.
	own := impl.Event{Kind: impl.EventDeliver, Op: n.Packets[1].Message.Op}
	checkStep(t, networkOf(t, "to b 0 1b block - - 1"), own, networkOf(t, "b has 1b block - - 1"), true)
}

func TestP46DeliveriesThatAreRefused(t *testing.T) {
	refused := func(n impl.Network) {
		t.Helper()
		left := copyOfNetwork(n)
		left.Packets = left.Packets[1:]
		checkStep(t, n, deliver(0), left, true)
		checkStep(t, n, duplicate(0), n, true)
	}
	refused(networkOf(t, "b has 1a block - - 1", "to b 0 1a block - - 1", "to c 0 1a block - - 1"))
	refused(networkOf(t, "b has 1a block - - 1", "to b 0 1a block - - 2"))
	refused(networkOf(t, "b awaits 1 2a text 1a - x", "to b 1 2a text 1a - x", "to b 1 2a text 1a - x"))
	n := networkOf(t, "to c 59 60b drop 1a", "to a 59 60b drop 1a")
	n.Replicas[2].Pending = dropMessages(5, impl.MaxPending, 0)
	refused(n)
}

func TestP46APacketThatIsDeliveredTwice(t *testing.T) {
	n := networkOf(t, "b has 1a block - - 1", "to b 1 2a text 1a - x")
	once := networkOf(t, "b has 1a block - - 1", "b has 2a text 1a - x", "to b 1 2a text 1a - x")
	checkStep(t, n, duplicate(0), once, true)
	checkStep(t, once, duplicate(0), once, true)
	checkStep(t, once, deliver(0), networkOf(t, "b has 1a block - - 1", "b has 2a text 1a - x"), true)
	checkStep(t, once, drop(0), networkOf(t, "b has 1a block - - 1", "b has 2a text 1a - x"), true)
}

func TestP46ImpossibleEvents(t *testing.T) {
	n := networkOf(t, story...)
	for _, kind := range []int{impl.EventDeliver, impl.EventDuplicate, impl.EventDrop} {
		for _, index := range []int{-1, 4, 5, math.MinInt, math.MaxInt} {
			checkStep(t, n, impl.Event{Kind: kind, Index: index}, n, false)
		}
		for _, index := range []int{-1, 0, 1} {
			checkStep(t, emptyNetwork(), impl.Event{Kind: kind, Index: index}, emptyNetwork(), false)
		}
	}
	for _, kind := range []int{0, 5, 6, -1, math.MinInt, math.MaxInt} {
		for index := -1; index <= 4; index++ {
			e := editOf(t, index, "text - - x")
			e.Kind = kind
			checkStep(t, n, e, n, false)
		}
	}
	checkStep(t, n, impl.Event{}, n, false)
}

func TestInvalidNetworksStayWhereTheyAre(t *testing.T) {
	for _, n := range badNetworks(t) {
		for _, e := range []impl.Event{{}, editOf(t, 0, "text - - x"), editOf(t, 2, "text - - x"), deliver(0), duplicate(0), drop(0), drop(99)} {
			if got, ok := impl.NetworkStep(n, e); ok || !isZeroNetwork(got) {
				t.Errorf("NetworkStep(%v, %v) = %v, %v", n, e, got, ok)
			}
		}
		if got := impl.NetworkSync(n); !isZeroNetwork(got) {
			t.Errorf("NetworkSync(%v) = %v", n, got)
		}
	}
}

func TestP46StepsRemoveNoAppliedOperations(t *testing.T) {
	seen := map[string]int{}
	check := func(n impl.Network, e impl.Event) {
		got, ok := impl.NetworkStep(n, e)
		want, wantOK := modelStep(n, e)
		if ok != wantOK || !sameNetwork(got, want) || !impl.ValidNetwork(got) {
			t.Fatalf("NetworkStep(%v) of\n%sis %v\n%swant %v\n%s", e, networkText(n), ok, networkText(got), wantOK, networkText(want))
		}
		for who, r := range n.Replicas {
			if union := unionOf(got.Replicas[who].Log, r.Log); !slices.Equal(union, got.Replicas[who].Log) {
				t.Fatalf("NetworkStep(%v) of\n%sloses an operation\n%s", e, networkText(n), networkText(got))
			}
		}
		kinds := []string{"none", "edit", "deliver", "duplicate", "drop"}
		switch {
		case !ok && e.Kind >= 0 && e.Kind <= 4:
			seen["impossible "+kinds[e.Kind]]++
		case !ok:
			seen["impossible none"]++
		case e.Kind == impl.EventEdit && len(got.Packets) < len(n.Packets)+2:
			seen["edit without room"]++
		case (e.Kind == impl.EventDeliver || e.Kind == impl.EventDuplicate) && slices.EqualFunc(n.Replicas, got.Replicas, sameReplica):
			seen["refused "+kinds[e.Kind]]++
		default:
			seen[kinds[e.Kind]]++
		}
	}
	someRuns(46, func(events []impl.Event, networks []impl.Network) {
		before := emptyNetwork()
		for i, e := range events {
			check(before, e)
			before = networks[i]
		}
	})
	someNetworks(461, func(n impl.Network) {
		for i := range impl.MaxPackets + 1 {
			check(n, impl.Event{Kind: 1 + i%4, Index: i, Op: impl.Op{Kind: impl.OpInsert, Value: 'x'}})
		}
	})
	for _, class := range []string{"impossible none", "impossible edit", "impossible deliver", "impossible duplicate", "impossible drop", "edit", "edit without room", "deliver", "refused deliver", "duplicate", "refused duplicate", "drop"} {
		if seen[class] < rounds/3 {
			t.Errorf("the events of the test are one-sided: %v", seen)
		}
	}
}

// checkRun fails the test if events do not lead to a network.
func checkRun(t *testing.T, events []impl.Event, want ...string) {
	t.Helper()
	if got := impl.NetworkRun(events); !sameNetwork(got, networkOf(t, want...)) {
		t.Errorf("NetworkRun(%v) is\n%swant\n%s", events, networkText(got), networkText(networkOf(t, want...)))
	}
}

func TestP47Runs(t *testing.T) {
	checkRun(t, nil)
	checkRun(t, []impl.Event{})
	checkRun(t, []impl.Event{{}, deliver(0), drop(-1), editOf(t, 3, "text - - x"), editOf(t, 0, "drop 1a")})
	events := []impl.Event{
		editOf(t, 0, "block - - 1"), duplicate(0), deliver(1), // to b and c
		editOf(t, 0, "text 1a - x"), editOf(t, 1, "kind 1a 2"), // impossible at first for c
		editOf(t, 2, "erase 2a"), drop(0), deliver(1), editOf(t, 2, "erase 2a"),
	}
	checkRun(t, events,
		"a has 1a block - - 1", "a has 2a text 1a - x", "b has 1a block - - 1", "b has 2b kind 1a 2",
		"c has 1a block - - 1", "c has 2a text 1a - x", "c has 3c erase 2a",
		"to b 1 2a text 1a - x", "to a 0 2b kind 1a 2", "to c 0 2b kind 1a 2", "to a 0 3c erase 2a", "to b 0 3c erase 2a")
}

func TestP47OnlyTheFirstEventsAreApplied(t *testing.T) {
	// Impossible events count, too.
	for impossible := 36; impossible <= 42; impossible++ {
		events := slices.Repeat([]impl.Event{drop(0)}, impossible)
		want := emptyNetwork()
		for i := range 6 {
			e := editOf(t, i%3, "text - - x")
			events = append(events, e)
			if impossible+i < 40 {
				want, _ = modelStep(want, e)
			}
		}
		if got := impl.NetworkRun(events); !sameNetwork(got, want) {
			t.Errorf("after %d impossible events, NetworkRun is\n%swant\n%s", impossible, networkText(got), networkText(want))
		}
	}
	long := slices.Repeat([]impl.Event{editOf(t, 1, "text - - x"), drop(0), drop(0)}, 30)
	if got := impl.NetworkRun(long); len(got.Replicas[1].Log) != 14 || len(got.Packets) != 2 {
		t.Errorf("NetworkRun of %d events is\n%s", len(long), networkText(got))
	}
}

func TestP47RunsAreSequencesOfSteps(t *testing.T) {
	long, impossible := 0, 0
	someRuns(47, func(events []impl.Event, networks []impl.Network) {
		got, want := impl.NetworkRun(events), impl.NewNetwork()
		for _, e := range events[:min(40, len(events))] {
			next, ok := impl.NetworkStep(want, e)
			if want = next; !ok {
				impossible++
			}
		}
		if !sameNetwork(got, want) || !sameNetwork(got, modelRun(events)) || !impl.ValidNetwork(got) {
			t.Fatalf("NetworkRun(%v) is\n%swant\n%s", events, networkText(got), networkText(want))
		}
		if len(events) > 40 && !sameNetwork(got, networks[len(networks)-1]) {
			long++
		}
	})
	if long < rounds/5 || impossible < rounds {
		t.Errorf("in the test, %d runs are too long, and %d events are impossible", long, impossible)
	}
}
