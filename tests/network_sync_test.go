package tests

import (
	"slices"
	"strings"
	"testing"

	"loop.example/collabdoc/impl"
)

// checkSync fails the test if NetworkSync does not make a network what is wanted.
func checkSync(t *testing.T, n impl.Network, want impl.Network) {
	t.Helper()
	if got := impl.NetworkSync(n); !sameNetwork(got, want) {
		t.Errorf("NetworkSync of\n%sis\n%swant\n%s", networkText(n), networkText(got), networkText(want))
	}
}

// everywhere returns a network whose replicas all have a log, and nothing else.
func everywhere(log []impl.Op) impl.Network {
	n := emptyNetwork()
	for who := range n.Replicas {
		n.Replicas[who].Log = slices.Clone(log)
	}
	return n
}

// allOf returns the operations that the replicas of a network have in their logs.
func allOf(n impl.Network) []impl.Op {
	return unionOf(unionOf(n.Replicas[0].Log, n.Replicas[1].Log), n.Replicas[2].Log)
}

func TestP48LostDuplicatedAndDelayedPackets(t *testing.T) {
	checkSync(t, emptyNetwork(), emptyNetwork())
	checkSync(t, networkOf(t, story...), everywhere(ops(t, "1a block - - 1", "2a text 1a - x", "2c text 1a - y", "3b kind 1a 2", "4b erase 2a")))
	type1, type2, type3 := editOf(t, 0, "block - - 1"), editOf(t, 0, "text 1a - x"), editOf(t, 0, "text 1a 2a y")
	want := ops(t, "1a block - - 1", "2a text 1a - x", "3a text 1a 2a y")
	for name, events := range map[string][]impl.Event{
		"nothing arrives":      {type1, type2, type3},
		"all is lost":          {type1, drop(0), drop(0), type2, drop(1), drop(0), type3, drop(0), drop(0)},
		"all arrives":          {type1, type2, type3, deliver(0), deliver(0), deliver(0), deliver(0), deliver(0), deliver(0)},
		"all arrives late":     {type1, type2, type3, deliver(5), deliver(4), deliver(3), deliver(2), deliver(1), deliver(0)},
		"the block is lost":    {type1, drop(0), drop(0), type2, type3, deliver(3), deliver(2), deliver(1), deliver(0)},
		"the x is lost":        {type1, type2, drop(2), type3, deliver(3), deliver(2), deliver(1), deliver(0)},
		"all comes twice":      {type1, type2, type3, duplicate(5), duplicate(5), duplicate(4), duplicate(4), duplicate(3), duplicate(2), duplicate(1), duplicate(0), duplicate(0)},
		"twice, and some lost": {type1, drop(0), type2, duplicate(1), duplicate(1), type3, duplicate(3), drop(3), deliver(1)},
	} {
		n := impl.NetworkRun(events)
		if got := impl.NetworkSync(n); !sameNetwork(got, everywhere(want)) {
			t.Errorf("where %s, NetworkSync of\n%sis\n%s", name, networkText(n), networkText(got))
		}
	}
	// One edit of each author, one after the other or unaware of each other.
	checkSync(t, networkOf(t, "a has 1a text - - x", "b has 1b text - - y", "c has 1c text - - z"), everywhere(ops(t, "1a text - - x", "1b text - - y", "1c text - - z")))
	// Packets are removed, not delivered.
	checkSync(t, networkOf(t, "to a 0 1b text - - y", "to b 0 1b text - - y", "to c 0 1b text - - y"), emptyNetwork())
}

func TestP48TwoRounds(t *testing.T) {
	// In each round a replica sends on only what it has when its turn comes. What waits at b is applied after the turn of b, so that it takes a second round.
	checkSync(t, networkOf(t, "b awaits 0 2a text 1c - x", "c has 1c block - - 1"), everywhere(ops(t, "1c block - - 1", "2a text 1c - x")))
	// What waits at a for that is applied in the second round after the turn of a. There is no third one.
	checkSync(t, networkOf(t, "a awaits 0 3b erase 2a", "b awaits 0 2a text 1c - x", "c has 1c block - - 1"), networkOf(t,
		"a has 1c block - - 1", "a has 2a text 1c - x", "a has 3b erase 2a",
		"b has 1c block - - 1", "b has 2a text 1c - x",
		"c has 1c block - - 1", "c has 2a text 1c - x"))
	// The turns are in the order of the authors: what waits at a and b is applied in the turn of c, or what waits at b and c in the turn of a.
	checkSync(t, networkOf(t, "a has 1a block - - 1", "b awaits 0 2b drop 1a", "c awaits 0 3c drop 2b"), everywhere(ops(t, "1a block - - 1", "2b drop 1a", "3c drop 2b")))
	checkSync(t, networkOf(t, "a awaits 0 3a drop 2b", "b awaits 0 2b drop 1c", "c has 1c block - - 1"), networkOf(t,
		"a has 1c block - - 1", "a has 2b drop 1c", "a has 3a drop 2b",
		"b has 1c block - - 1", "b has 2b drop 1c",
		"c has 1c block - - 1", "c has 2b drop 1c"))
}

func TestP48NetworksThatCannotConverge(t *testing.T) {
	// The vector of b covers 2a, so that 2a is not sent to b; at c, 3a arrives without it.
	checkSync(t, networkOf(t, "a has 1a block - - 1", "a has 2a text 1a - x", "b has 3a drop 1a"), networkOf(t,
		"a has 1a block - - 1", "a has 2a text 1a - x", "b has 3a drop 1a",
		"c has 1a block - - 1", "c has 2a text 1a - x", "a awaits 0 3a drop 1a", "c awaits 0 3a drop 1a"))
	// Operations that differ, but have the same ID.
	checkSync(t, networkOf(t, "a has 1a text - - x", "b has 1a text - - y", "b has 2b text - - z"), networkOf(t,
		"a has 1a text - - x", "a has 2b text - - z", "b has 1a text - - y", "b has 2b text - - z", "c has 1a text - - x", "c has 2b text - - z"))
	// A message that is pending stays, if nobody has what it needs.
	checkSync(t, networkOf(t, "a has 1a block - - 1", "c awaits 1 3b drop 1a"), networkOf(t,
		"a has 1a block - - 1", "b has 1a block - - 1", "c has 1a block - - 1", "c awaits 1 3b drop 1a"))
}

// typedBy returns n operations by which an author types a text into the root, and the messages that carry them.
func typedBy(t *testing.T, who string, n int) ([]impl.Op, []impl.Message) {
	t.Helper()
	log := ops(t, typing("1"+who, "-", "-", strings.Repeat("x", n))...)
	return log, modelMessages(log, []int{0, 0, 0})
}

func TestP48FullLogs(t *testing.T) {
	full, sent := typedBy(t, "a", impl.MaxOps)
	more := messages(t, "0 1b text - - y")
	// All that there is fits into one log.
	checkSync(t, networkWith(full, nil, nil), everywhere(full))
	checkSync(t, networkWith(nil, full[:30], full), everywhere(full))
	// It does not. b has room for all operations of a but the last one; the log of c is full before the y arrives.
	want := networkWith(full, slices.Concat(full[:1], ops(t, "1b text - - y"), full[1:39]), full)
	want.Replicas[0].Pending, want.Replicas[1].Pending, want.Replicas[2].Pending = more, sent[39:], more
	checkSync(t, networkWith(full, ops(t, "1b text - - y"), nil), want)
	// Two full logs: the first messages from the other one fill the buffers.
	others, sentBack := typedBy(t, "b", impl.MaxOps)
	want = networkWith(full, others, full)
	want.Replicas[0].Pending, want.Replicas[1].Pending, want.Replicas[2].Pending = sentBack[:20], sent[:20], sentBack[:20]
	checkSync(t, networkWith(full, others, nil), want)
}

// networkWith returns a network with three logs.
func networkWith(logs ...[]impl.Op) impl.Network {
	n := emptyNetwork()
	for who, log := range logs {
		n.Replicas[who].Log = slices.Clone(log)
	}
	return n
}

func TestP48FullBuffers(t *testing.T) {
	log, sent := typedBy(t, "a", impl.MaxPending+2)
	stuck := dropMessages(50, impl.MaxPending, 1)
	// Each message is ready when it arrives, so that a full buffer does not matter.
	n, want := networkWith(log, nil, nil), everywhere(log)
	n.Replicas[1].Pending, want.Replicas[1].Pending = stuck, stuck
	checkSync(t, n, want)
	n, want = networkWith(log, nil, nil), everywhere(log)
	n.Replicas[2].Pending = sent[2:]
	checkSync(t, n, want)
	// All but the first operation: none is ever ready at b and c. One has room for 20 messages, the other one for none.
	n = networkWith(log[1:], nil, nil)
	n.Replicas[2].Pending = stuck
	want = copyOfNetwork(n)
	want.Replicas[1].Pending = modelMessages(log[1:], []int{0, 0, 0})[:impl.MaxPending]
	checkSync(t, n, want)
}

func TestP48MessagesThatWereRefusedComeAgain(t *testing.T) {
	// The operations of a depend on one of b and on one of c. When the latter arrives at b, in the turn of c, the buffer of b was too small for the last ones.
	var log []impl.Op
	for i := range impl.MaxPending + 5 {
		log = append(log, impl.Op{ID: at(2+i, 0), Kind: impl.OpInsert, Target: at(1, 1), After: at(1, 2), Value: 'x'})
	}
	block, char := ops(t, "1b block - - 1"), ops(t, "1c text 1b - y")
	all := slices.Concat(block, char, log)
	n := networkWith(log, block, char)
	checkSync(t, n, everywhere(all))
	if once := modelSync(n, 1); len(once.Replicas[1].Log) != 2+impl.MaxPending || len(once.Replicas[0].Log) != len(all) {
		t.Errorf("after one round the test has\n%s", networkText(once))
	}
}

func TestP48AllReplicasConverge(t *testing.T) {
	behindBefore, waiting, rows := 0, 0, 0
	someRuns(48, func(events []impl.Event, networks []impl.Network) {
		for i, n := range append(slices.Clone(networks), impl.NetworkRun(events)) {
			all := allOf(n)
			if len(all) > impl.MaxOps || i < len(networks) && i%13 > 0 {
				continue
			}
			got := impl.NetworkSync(n)
			if !sameNetwork(got, everywhere(all)) {
				t.Fatalf("NetworkSync of\n%sis\n%s", networkText(n), networkText(got))
			}
			for who, r := range n.Replicas {
				if len(r.Log) < len(all) {
					behindBefore++
				}
				waiting += len(r.Pending)
				a, b := impl.Render(got.Replicas[0].Log), impl.Render(got.Replicas[who].Log)
				if !slices.Equal(a, b) || impl.RenderText(got.Replicas[0].Log) != impl.RenderText(got.Replicas[who].Log) {
					t.Fatalf("after NetworkSync, one replica shows\n%v\nand another one\n%v", a, b)
				}
				rows += len(a)
			}
		}
	})
	if behindBefore < rounds || waiting < rounds || rows < rounds {
		t.Errorf("in the test, %d replicas lack an operation, %d messages are pending, and there are %d rows", behindBefore, waiting, rows)
	}
}

func TestP48WhateverTheReplicasHave(t *testing.T) {
	seen := map[string]int{}
	someNetworks(481, func(n impl.Network) {
		got, want := impl.NetworkSync(n), modelSync(n, 2)
		if !sameNetwork(got, want) || !impl.ValidNetwork(got) {
			t.Fatalf("NetworkSync of\n%sis\n%swant\n%s", networkText(n), networkText(got), networkText(want))
		}
		if !sameNetwork(want, modelSync(n, 1)) {
			seen["second round"]++
		}
		for _, r := range got.Replicas {
			if len(r.Log) == impl.MaxOps {
				seen["full log"]++
			}
			if len(r.Pending) == impl.MaxPending {
				seen["full buffer"]++
			}
		}
	})
	for _, class := range []string{"second round", "full log", "full buffer"} {
		if seen[class] < rounds/10 {
			t.Errorf("the networks of the test are one-sided: %v", seen)
		}
	}
}

func TestP49SyncIsIdempotent(t *testing.T) {
	same, waiting, other := 0, 0, 0
	someNetworks(49, func(n impl.Network) {
		once := impl.NetworkSync(n)
		twice := impl.NetworkSync(once)
		if !sameNetwork(twice, modelSync(n, 4)) {
			t.Fatalf("the second NetworkSync of\n%sis\n%s", networkText(once), networkText(twice))
		}
		if !slices.Equal(once.Replicas[0].Log, once.Replicas[1].Log) || !slices.Equal(once.Replicas[1].Log, once.Replicas[2].Log) {
			other++
			return
		}
		if !sameNetwork(twice, once) {
			t.Fatalf("the second NetworkSync changes\n%sto\n%s", networkText(once), networkText(twice))
		}
		same++
		if len(once.Replicas[0].Pending) > 0 {
			waiting++
		}
	})
	if same < rounds || waiting < rounds/30 || other < rounds/2 {
		t.Errorf("the test has %d networks with equal logs, %d of them with pending messages, and %d others", same, waiting, other)
	}
}

func TestP49EqualLogsAndPendingMessages(t *testing.T) {
	n := everywhere(ops(t, "1a block - - 1", "2b text 1a - x"))
	n.Replicas[1].Pending = messages(t, "0 3a drop 1a")
	n.Replicas[2].Pending = messages(t, "5 6b drop 1a", "5 6c drop 1a")
	checkSync(t, n, n)
	// A message that is ready stays, too, since nothing arrives.
	n.Replicas[0].Pending = messages(t, "1 3a drop 1a")
	checkSync(t, n, n)
}
