package tests

import (
	"slices"
	"testing"

	"loop.example/collabdoc/impl"
)

// Values that no network of the tests has.
var (
	spareOp      = impl.Op{ID: at(98, 2), Kind: impl.OpReply, Target: at(1, 0), Text: "behind"}
	spareMessage = impl.Message{Op: spareOp, Prev: 97}
	sparePacket  = impl.Packet{To: 2, Message: spareMessage}
)

// roomy returns a copy of a network with spare capacity behind each slice, and a function that reports whether the copy and what stands behind its slices are still the same.
func roomy(n impl.Network) (impl.Network, func() bool) {
	replicas := make([]impl.Replica, 0, len(n.Replicas)+2)
	var logs [][]impl.Op
	var pending [][]impl.Message
	for _, r := range n.Replicas {
		log := append(slices.Clone(r.Log), spareOp, spareOp, spareOp)
		list := append(slices.Clone(r.Pending), spareMessage, spareMessage, spareMessage)
		logs, pending = append(logs, log), append(pending, list)
		replicas = append(replicas, impl.Replica{Author: r.Author, Log: log[:len(r.Log)], Pending: list[:len(r.Pending)]})
	}
	behind := append(replicas, impl.Replica{Author: 77}, impl.Replica{Author: 77})
	packets := append(slices.Clone(n.Packets), sparePacket, sparePacket, sparePacket)
	c := impl.Network{Replicas: replicas, Packets: packets[:len(n.Packets)]}
	unchanged := func() bool {
		same := sameNetwork(c, n) && behind[len(n.Replicas)].Author == 77 && behind[len(n.Replicas)+1].Author == 77
		for i := range n.Replicas {
			same = same && countOf(logs[i], spareOp) == 3 && countOf(pending[i], spareMessage) == 3
		}
		return same && countOf(packets, sparePacket) == 3
	}
	return c, unchanged
}

// countOf returns how often an item is at the end of a slice.
func countOf[E comparable](s []E, item E) int {
	n := 0
	for n < len(s) && s[len(s)-1-n] == item {
		n++
	}
	return n
}

// overwritten overwrites all slices of a network, and the spare capacity behind them. It reports whether each one kept what was written into it, as it does if they have memory of their own.
func overwritten(n impl.Network) bool {
	for i, r := range n.Replicas {
		overwrite(r.Log, impl.Op{Value: i})
		overwrite(r.Pending, impl.Message{Prev: i, Op: spareOp})
	}
	overwrite(n.Packets, sparePacket)
	kept := true
	for i, r := range n.Replicas {
		kept = kept && countOf(r.Log[:cap(r.Log)], impl.Op{Value: i}) == cap(r.Log)
		kept = kept && countOf(r.Pending[:cap(r.Pending)], impl.Message{Prev: i, Op: spareOp}) == cap(r.Pending)
	}
	kept = kept && countOf(n.Packets[:cap(n.Packets)], sparePacket) == cap(n.Packets)
	overwrite(n.Replicas, impl.Replica{Author: 78})
	return kept
}

// checkNetworkMemory fails the test if a call changes its network, or gives a network whose slices share memory with that or each other.
func checkNetworkMemory(t *testing.T, name string, n impl.Network, call func(n impl.Network) impl.Network) {
	t.Helper()
	arg, unchanged := roomy(n)
	got := call(arg)
	if !unchanged() {
		t.Fatalf("%s changes its argument %v", name, n)
	}
	if !overwritten(got) {
		t.Fatalf("two slices of the result of %s of %v share memory", name, n)
	}
	if !unchanged() {
		t.Fatalf("%s of %v shares memory with its argument", name, n)
	}
}

func TestNetworksShareNoMemory(t *testing.T) {
	check := func(n impl.Network) {
		t.Helper()
		checkNetworkMemory(t, "ValidNetwork", n, func(n impl.Network) impl.Network { impl.ValidNetwork(n); return impl.Network{} })
		checkNetworkMemory(t, "NetworkSync", n, impl.NetworkSync)
		for _, e := range []impl.Event{
			// The last of these are impossible.
			editOf(t, 0, "text - - x"), editOf(t, 1, "block - - 3"), editOf(t, 2, "text - - x"), deliver(0), deliver(1), duplicate(0), duplicate(2), drop(0), drop(1),
			{}, deliver(-1), duplicate(99), drop(40), editOf(t, 3, "text - - x"), editOf(t, 1, "drop 99b"),
		} {
			checkNetworkMemory(t, "NetworkStep", n, func(n impl.Network) impl.Network { next, _ := impl.NetworkStep(n, e); return next })
		}
	}
	for _, n := range append(badNetworks(t), emptyNetwork(), networkOf(t, story...), networkOf(t, "a has 1a block - - 1", "to b 0 1a block - - 1")) {
		check(n)
	}
	i := 0
	someNetworks(50, func(n impl.Network) {
		if i++; i%4 == 0 {
			check(n)
		}
	})
}

func TestNewNetworksShareNoMemory(t *testing.T) {
	for range 2 {
		n := impl.NewNetwork()
		if !sameNetwork(n, emptyNetwork()) || !overwritten(n) {
			t.Fatal("a new network shares memory with another one, or its slices do with each other")
		}
	}
}

func TestNetworkRunsShareNoMemory(t *testing.T) {
	someRuns(51, func(events []impl.Event, networks []impl.Network) {
		checkFresh(t, "NetworkRun", events, impl.Event{Kind: 77, Op: spareOp}, func(events []impl.Event) []impl.Event {
			if n := impl.NetworkRun(events); !overwritten(n) {
				t.Fatalf("two slices of the result of NetworkRun(%v) share memory", events)
			}
			return nil
		})
	})
}
