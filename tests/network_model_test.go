package tests

import (
	"fmt"
	"math/rand"
	"slices"
	"strings"
	"testing"

	"loop.example/collabdoc/impl"
)

const letters = "abc"

// networkOf returns a network that is given by lines like "a has 1a block - - 1" (an operation of the log of author a), "b awaits 1 2a drop 1a" (a pending message, with Prev in front of the operation) and "to c 0 1a block - - 1" (a packet).
func networkOf(t *testing.T, lines ...string) impl.Network {
	t.Helper()
	n := emptyNetwork()
	for _, line := range lines {
		words := strings.SplitN(line, " ", 3)
		if words[0] == "to" {
			n.Packets = append(n.Packets, impl.Packet{To: strings.Index(letters, words[1]), Message: messages(t, words[2])[0]})
			continue
		}
		r := &n.Replicas[strings.Index(letters, words[0])]
		if words[1] == "has" {
			r.Log = append(r.Log, ops(t, words[2])...)
		} else {
			r.Pending = append(r.Pending, messages(t, words[2])...)
		}
	}
	return n
}

func emptyNetwork() impl.Network {
	return impl.Network{Replicas: []impl.Replica{{Author: 0}, {Author: 1}, {Author: 2}}}
}

// networkText returns the text of a valid network, in lines of the same kind.
func networkText(n impl.Network) string {
	var text strings.Builder
	for who, r := range n.Replicas {
		letter := letters[who : who+1]
		for _, o := range r.Log {
			fmt.Fprintln(&text, letter, "has", impl.EncodeOp(o))
		}
		for _, m := range r.Pending {
			fmt.Fprintln(&text, letter, "awaits", m.Prev, impl.EncodeOp(m.Op))
		}
	}
	for _, p := range n.Packets {
		fmt.Fprintln(&text, "to", letters[p.To:p.To+1], p.Message.Prev, impl.EncodeOp(p.Message.Op))
	}
	return text.String()
}

// sameNetwork reports whether two networks are equal. It makes no difference whether an empty slice is nil.
func sameNetwork(a impl.Network, b impl.Network) bool {
	return slices.EqualFunc(a.Replicas, b.Replicas, sameReplica) && slices.Equal(a.Packets, b.Packets)
}

func isZeroNetwork(n impl.Network) bool {
	return len(n.Replicas) == 0 && len(n.Packets) == 0
}

// copyOfNetwork returns a network with memory of its own.
func copyOfNetwork(n impl.Network) impl.Network {
	c := impl.Network{Packets: slices.Clone(n.Packets)}
	for _, r := range n.Replicas {
		c.Replicas = append(c.Replicas, copyOf(r))
	}
	return c
}

// modelStep is NetworkStep of a valid network.
func modelStep(n impl.Network, e impl.Event) (impl.Network, bool) {
	next := copyOfNetwork(n)
	if e.Kind == 1 {
		if e.Index < 0 || e.Index > 2 {
			return next, false
		}
		r, m, ok := modelEdit(next.Replicas[e.Index], e.Op)
		next.Replicas[e.Index] = r
		for to := 0; ok && to <= 2; to++ {
			if to != e.Index && len(next.Packets) < 40 {
				next.Packets = append(next.Packets, impl.Packet{To: to, Message: m})
			}
		}
		return next, ok
	}
	if e.Index < 0 || e.Index >= len(n.Packets) {
		return next, false
	}
	to, m := n.Packets[e.Index].To, n.Packets[e.Index].Message
	received, _ := modelReceive(next.Replicas[to], m)
	switch e.Kind {
	case 2:
		next.Replicas[to] = received
		next.Packets = slices.Delete(next.Packets, e.Index, e.Index+1)
	case 3:
		next.Replicas[to] = received
	case 4:
		next.Packets = slices.Delete(next.Packets, e.Index, e.Index+1)
	default:
		return next, false
	}
	return next, true
}

// modelRun is NetworkRun.
func modelRun(events []impl.Event) impl.Network {
	n := emptyNetwork()
	for i, e := range events {
		if next, ok := modelStep(n, e); i < 40 && ok {
			n = next
		}
	}
	return n
}

// modelSync is NetworkSync of a valid network with any number of rounds.
func modelSync(n impl.Network, times int) impl.Network {
	next := copyOfNetwork(n)
	for range times {
		for _, pair := range [][2]int{{0, 1}, {0, 2}, {1, 0}, {1, 2}, {2, 0}, {2, 1}} {
			from, to := next.Replicas[pair[0]], &next.Replicas[pair[1]]
			for _, m := range modelMessages(from.Log, modelVector(to.Log)) {
				*to, _ = modelReceive(*to, m)
			}
		}
	}
	next.Packets = nil
	return next
}

// modelVector returns the largest Seq of each author in a log.
func modelVector(log []impl.Op) []int {
	v := []int{0, 0, 0}
	for _, o := range log {
		v[o.ID.Author] = max(v[o.ID.Author], o.ID.Seq)
	}
	return v
}

// someRuns calls yield with events, most of which are possible one after the other, and with the networks behind each of them. In some runs hardly anything arrives, in some most of it is lost or comes twice, and some are longer than MaxEvents.
func someRuns(seed int64, yield func(events []impl.Event, networks []impl.Network)) {
	random := rand.New(rand.NewSource(seed))
	for range rounds {
		weights := []int{1 + random.Intn(4), random.Intn(4), random.Intn(3), random.Intn(3)}
		kinds := randomWeights(random)
		length := []int{random.Intn(12), 20 + random.Intn(21), 60 + random.Intn(180)}[random.Intn(3)]
		n := emptyNetwork()
		var events []impl.Event
		var networks []impl.Network
		for range length {
			e := randomEvent(random, n, weights, kinds)
			n, _ = modelStep(n, e)
			events, networks = append(events, e), append(networks, n)
		}
		yield(events, networks)
	}
}

// randomEvent returns an event that is possible at a network in most cases.
func randomEvent(random *rand.Rand, n impl.Network, weights []int, kinds []int) impl.Event {
	e := impl.Event{Kind: weighted(random, weights), Index: random.Intn(len(n.Packets) + 1)}
	switch {
	case e.Kind == impl.EventEdit:
		e.Index = random.Intn(impl.MaxAuthors)
		e.Op = impl.Op{Kind: impl.OpAddBlock, Value: impl.Paragraph}
		if log := n.Replicas[e.Index].Log; len(log) > 0 {
			e.Op = docOp(random, log, at(impl.MaxCounter, 2), weighted(random, kinds))
		}
	case random.Intn(3) == 0:
		e.Index = 0
	}
	switch random.Intn(30) {
	case 0:
		e.Kind = random.Intn(8) - 1
	case 1:
		e.Index = random.Intn(60) - 10
	}
	return e
}

// someNetworks calls yield with the last networks of someRuns, and with networks that no run leads to: their replicas have any part of a history that may be longer than a log, and some of their packets carry messages that were never sent.
func someNetworks(seed int64, yield func(n impl.Network)) {
	someRuns(seed, func(events []impl.Event, networks []impl.Network) {
		if len(networks) > 0 {
			yield(networks[len(networks)-1])
		}
	})
	random := rand.New(rand.NewSource(seed))
	for range 2 * rounds {
		yield(strangeNetwork(random))
	}
}

func strangeNetwork(random *rand.Rand) impl.Network {
	sent := modelMessages(randomWorld(random), []int{0, 0, 0})
	var n impl.Network
	for who := range impl.MaxAuthors {
		r, _ := randomReplica(random, sent)
		r.Author = who
		n.Replicas = append(n.Replicas, r)
	}
	for range random.Intn(impl.MaxPackets + 1) {
		p := impl.Packet{To: random.Intn(impl.MaxAuthors), Message: sent[random.Intn(len(sent))]}
		if other := spoilt(random, p.Message); random.Intn(6) == 0 && modelValidMessage(other) {
			p.Message = other
		}
		n.Packets = append(n.Packets, p)
	}
	return n
}
