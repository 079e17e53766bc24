package tests

import (
	"fmt"
	"math/rand"
	"slices"
	"strconv"
	"strings"
	"testing"

	"loop.example/collabdoc/impl"
)

// messages returns messages that are given by Prev and the text form of the operation.
func messages(t *testing.T, texts ...string) []impl.Message {
	t.Helper()
	list := []impl.Message{}
	for _, text := range texts {
		prev, line, _ := strings.Cut(text, " ")
		n, err := strconv.Atoi(prev)
		if err != nil {
			t.Fatalf("no Prev in %q", text)
		}
		list = append(list, impl.Message{Op: ops(t, line)[0], Prev: n})
	}
	return list
}

// replicaLines returns the text of a replica, with a line for each operation and each pending message.
func replicaLines(r impl.Replica) []string {
	lines := []string{fmt.Sprint("author ", r.Author)}
	for _, o := range r.Log {
		lines = append(lines, impl.EncodeOp(o))
	}
	for _, m := range r.Pending {
		lines = append(lines, fmt.Sprint("pending ", m.Prev, " ", impl.EncodeOp(m.Op)))
	}
	return lines
}

// sameReplica reports whether two replicas are equal. It makes no difference whether an empty slice is nil.
func sameReplica(a impl.Replica, b impl.Replica) bool {
	return a.Author == b.Author && slices.Equal(a.Log, b.Log) && slices.Equal(a.Pending, b.Pending)
}

func isZeroReplica(r impl.Replica) bool {
	return r.Author == 0 && len(r.Log) == 0 && len(r.Pending) == 0
}

// copyOf returns a replica with memory of its own.
func copyOf(r impl.Replica) impl.Replica {
	return impl.Replica{Author: r.Author, Log: slices.Clone(r.Log), Pending: slices.Clone(r.Pending)}
}

func hasPending(r impl.Replica, id impl.Stamp) bool {
	return slices.ContainsFunc(r.Pending, func(m impl.Message) bool { return m.Op.ID == id })
}

// modelPrev returns the largest Seq of an author in a log that is less than that of a stamp.
func modelPrev(log []impl.Op, id impl.Stamp) int {
	prev := 0
	for seq := 1; seq < id.Seq; seq++ {
		if hasID(log, at(seq, id.Author)) {
			prev = seq
		}
	}
	return prev
}

func modelReady(log []impl.Op, m impl.Message) bool {
	zero := impl.Stamp{}
	target := m.Op.Target == zero || hasID(log, m.Op.Target)
	after := m.Op.After == zero || hasID(log, m.Op.After)
	parent := m.Op.NewParent == zero || hasID(log, m.Op.NewParent)
	return target && after && parent && modelPrev(log, m.Op.ID) == m.Prev
}

func modelValidMessage(m impl.Message) bool {
	return impl.ValidOp(m.Op) && m.Prev >= 0 && m.Prev < m.Op.ID.Seq
}

// modelDeliver delivers pending messages, which may be in any order.
func modelDeliver(r impl.Replica) impl.Replica {
	r = copyOf(r)
	for len(r.Log) < impl.MaxOps {
		best := -1
		for i, m := range r.Pending {
			if modelReady(r.Log, m) && (best < 0 || impl.StampLess(m.Op.ID, r.Pending[best].Op.ID)) {
				best = i
			}
		}
		if best < 0 {
			break
		}
		r.Log = unionOf(r.Log, []impl.Op{r.Pending[best].Op})
		r.Pending = slices.Delete(r.Pending, best, best+1)
	}
	return r
}

// modelReceive is ReplicaReceive of a valid replica.
func modelReceive(r impl.Replica, m impl.Message) (impl.Replica, bool) {
	if !modelValidMessage(m) || hasID(r.Log, m.Op.ID) || hasPending(r, m.Op.ID) {
		return r, false
	}
	longer := copyOf(r)
	longer.Pending = append(longer.Pending, m)
	sortMessages(longer.Pending)
	longer = modelDeliver(longer)
	if len(longer.Pending) > impl.MaxPending {
		return r, false
	}
	return longer, true
}

// modelEdit is ReplicaEdit of a valid replica.
func modelEdit(r impl.Replica, o impl.Op) (impl.Replica, impl.Message, bool) {
	last := 0
	for _, x := range r.Log {
		last = max(last, x.ID.Seq)
	}
	o.ID = at(last+1, r.Author)
	m := impl.Message{Op: o, Prev: modelPrev(r.Log, o.ID)}
	if !impl.ValidOp(o) || len(r.Log) == impl.MaxOps || !modelReady(r.Log, m) {
		return r, impl.Message{}, false
	}
	longer := copyOf(r)
	longer.Log = append(longer.Log, o)
	sortOps(longer.Log)
	return modelDeliver(longer), m, true
}

// modelMessages returns the messages of the operations of a log that a vector does not contain.
func modelMessages(log []impl.Op, v []int) []impl.Message {
	list := []impl.Message{}
	for _, o := range log {
		if o.ID.Seq > v[o.ID.Author] {
			list = append(list, impl.Message{Op: o, Prev: modelPrev(log, o.ID)})
		}
	}
	return list
}

// sortMessages sorts by operation ID without the package under test.
func sortMessages(list []impl.Message) {
	key := func(m impl.Message) int { return m.Op.ID.Seq*impl.MaxAuthors + m.Op.ID.Author }
	slices.SortFunc(list, func(a impl.Message, b impl.Message) int { return key(a) - key(b) })
}

// someReplicas calls yield with valid replicas that have any part of a history, and a message that is on its way to the replica. Some messages are duplicates, have a wrong Prev, or are invalid.
func someReplicas(seed int64, yield func(r impl.Replica, m impl.Message)) {
	random := rand.New(rand.NewSource(seed))
	for range 3 * rounds {
		world := randomWorld(random)
		sent := modelMessages(world, []int{0, 0, 0})
		r, rest := randomReplica(random, sent)
		for range 3 {
			m := sent[random.Intn(len(sent))]
			if len(rest) > 0 && random.Intn(6) > 0 {
				m = rest[random.Intn(len(rest))]
			}
			if random.Intn(8) == 0 {
				m = spoilt(random, m)
			}
			yield(copyOf(r), m)
		}
	}
}

// randomWorld returns a history, which may be longer than a log.
func randomWorld(random *rand.Rand) []impl.Op {
	n := []int{1 + random.Intn(8), 20 + random.Intn(20), 50 + random.Intn(12)}[random.Intn(3)]
	world := randomDocLog(random, n, randomWeights(random))
	return slices.DeleteFunc(world, func(o impl.Op) bool { return !impl.ValidOp(o) })
}

// randomReplica returns a replica with some of the messages that have been sent, and the others. It may have messages pending that are ready, or whose operation is in the log.
func randomReplica(random *rand.Rand, sent []impl.Message) (impl.Replica, []impl.Message) {
	r := impl.Replica{Author: random.Intn(impl.MaxAuthors)}
	var rest []impl.Message
	arrived := random.Intn(len(sent) + 1) // almost all of these have been applied, of the others only some
	luck, patience := random.Intn(10), random.Intn(10)
	late := 0 // these have not arrived, so that hardly anything is ready
	if random.Intn(4) == 0 {
		arrived, luck, late, patience = 0, 0, 8, 8
	}
	for i, m := range sent {
		switch {
		case i < late:
			rest = append(rest, m)
		case len(r.Log) < impl.MaxOps && (i < arrived && random.Intn(20) > 0 || random.Intn(12) < luck):
			r.Log = append(r.Log, m.Op)
			if len(r.Pending) < impl.MaxPending && random.Intn(12) == 0 {
				r.Pending = append(r.Pending, spoilt(random, m))
			}
		case len(r.Pending) < impl.MaxPending && random.Intn(10) < patience:
			r.Pending = append(r.Pending, m)
		default:
			rest = append(rest, m)
		}
	}
	r.Pending = slices.DeleteFunc(r.Pending, func(m impl.Message) bool { return !modelValidMessage(m) })
	return r, rest
}

// spoilt returns a message that is not the one that was sent.
func spoilt(random *rand.Rand, m impl.Message) impl.Message {
	switch random.Intn(5) {
	case 0:
		m.Prev = m.Op.ID.Seq
	case 1:
		m.Prev = -1
	case 2:
		m.Op.Value = 200
	case 3:
		m.Op = impl.Op{ID: m.Op.ID, Kind: impl.OpInsert, Value: 'z'}
	default:
		m.Prev = random.Intn(m.Op.ID.Seq)
	}
	return m
}
