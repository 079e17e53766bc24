package tests

import (
	"math"
	"math/rand"
	"slices"
	"strings"
	"testing"

	"loop.example/collabdoc/impl"
)

// badMessages returns messages that are not valid, with operations whose IDs are 30b or later.
func badMessages(t *testing.T) []impl.Message {
	good := ops(t, "30b text - - x")[0]
	later := good
	later.Target = at(30, 1)
	return []impl.Message{
		{}, {Prev: 1}, {Op: impl.Op{ID: at(30, 1)}}, {Op: impl.Op{Kind: impl.OpInsert, Value: 'x'}},
		{Op: good, Prev: 30}, {Op: good, Prev: 31}, {Op: good, Prev: -1}, {Op: good, Prev: math.MaxInt}, {Op: good, Prev: math.MinInt},
		{Op: impl.Op{ID: at(30, 1), Kind: impl.OpInsert, Value: 31}}, {Op: impl.Op{ID: at(30, 1), Kind: impl.OpDelete}}, {Op: later},
		{Op: impl.Op{ID: at(30, impl.MaxAuthors), Kind: impl.OpInsert, Value: 'x'}}, {Op: impl.Op{ID: at(100, 1), Kind: impl.OpInsert, Value: 'x'}},
	}
}

// dropMessages returns n messages by author who with the sequence numbers from first on, each one depending on the one before it.
func dropMessages(first int, n int, who int) []impl.Message {
	var list []impl.Message
	for _, o := range dropOps(first, n, who) {
		list = append(list, impl.Message{Op: o, Prev: o.ID.Seq - 1})
	}
	return list
}

// badReplicas returns replicas that are not valid, each with one defect.
func badReplicas(t *testing.T) []impl.Replica {
	log := ops(t, "1a block - - 1", "2b text 1a - x")
	list := messages(t, "4 5b drop 1a", "5 6b drop 1a", "5 6c drop 1a")
	var bad []impl.Replica
	for _, who := range []int{-1, impl.MaxAuthors, impl.MaxAuthors + 1, math.MinInt, math.MaxInt} {
		bad = append(bad, impl.Replica{Author: who}, impl.Replica{Author: who, Log: log, Pending: list})
	}
	for _, badLog := range badLogs(t) {
		bad = append(bad, impl.Replica{Author: 1, Log: badLog}, impl.Replica{Author: 1, Log: badLog, Pending: list})
	}
	other := list[1]
	other.Op.Target = at(2, 1)
	for _, pending := range [][]impl.Message{
		{list[1], list[0], list[2]}, {list[0], list[2], list[1]}, {list[2], list[1]},
		{list[0], list[0]}, {list[0], list[1], list[1]}, {list[1], other},
		dropMessages(5, 21, 1), dropMessages(5, 60, 1),
	} {
		bad = append(bad, impl.Replica{Author: 1, Log: log, Pending: pending}, impl.Replica{Pending: pending})
	}
	for _, m := range badMessages(t) {
		bad = append(bad, impl.Replica{Author: 1, Log: log, Pending: []impl.Message{m}}, impl.Replica{Pending: append(slices.Clone(list), m)})
	}
	return bad
}

func TestValidReplica(t *testing.T) {
	for who := range impl.MaxAuthors {
		for _, log := range [][]impl.Op{nil, ops(t, "1a block - - 1", "2b text 1a - x"), dropOps(2, impl.MaxOps, 0)} {
			for _, pending := range [][]impl.Message{
				nil, {}, dropMessages(5, 1, 0), dropMessages(5, 20, 1),
				// Ready, or in the log already, or with the smallest and the largest Prev.
				messages(t, "0 1b block - - 1"), messages(t, "0 2b drop 1a", "1 2c drop 1a"), messages(t, "0 30a drop 1a", "29 30b drop 1a"),
			} {
				if r := (impl.Replica{Author: who, Log: log, Pending: pending}); !impl.ValidReplica(r) {
					t.Errorf("ValidReplica(%v) = false", r)
				}
			}
		}
	}
	for _, r := range badReplicas(t) {
		if impl.ValidReplica(r) {
			t.Errorf("ValidReplica(%v) = true", r)
		}
	}
}

func TestInvalidReplicasStayWhereTheyAre(t *testing.T) {
	m := messages(t, "0 40c text - - x")[0]
	for _, r := range badReplicas(t) {
		for _, m := range append(badMessages(t), m) {
			if got, ok := impl.ReplicaReceive(r, m); ok || !isZeroReplica(got) {
				t.Errorf("ReplicaReceive(%v, %v) = %v, %v", r, m, got, ok)
			}
		}
		for _, o := range []impl.Op{m.Op, {}} {
			if got, sent, ok := impl.ReplicaEdit(r, o); ok || !isZeroReplica(got) || sent != (impl.Message{}) {
				t.Errorf("ReplicaEdit(%v, %v) = %v, %v, %v", r, o, got, sent, ok)
			}
		}
		for _, v := range append(badVectors(), []int{0, 0, 0}, []int{1, 0, 0}, []int{99, 99, 99}) {
			if got := impl.ReplicaMissing(r, v); got != nil {
				t.Errorf("ReplicaMissing(%v, %v) = %v, want nil", r, v, got)
			}
		}
	}
}

// checkReceive fails the test if a replica that receives a message is not what is wanted then, or does not accept or refuse it as wanted.
func checkReceive(t *testing.T, r impl.Replica, m impl.Message, want impl.Replica, wantOK bool) {
	t.Helper()
	if got, ok := impl.ReplicaReceive(r, m); ok != wantOK || !sameReplica(got, want) {
		t.Errorf("ReplicaReceive(%v, %v) is %v\n%s\nwant %v\n%s", r, m, ok, strings.Join(replicaLines(got), "\n"), wantOK, strings.Join(replicaLines(want), "\n"))
	}
}

// delivery is a replica of author 1, given by texts, what it receives, and what it is then. It refuses the message if both wanted lists are nil.
type delivery struct {
	log         []string
	pending     []string
	message     string
	wantLog     []string
	wantPending []string
}

func (d delivery) check(t *testing.T) {
	t.Helper()
	r := impl.Replica{Author: 1, Log: ops(t, d.log...), Pending: messages(t, d.pending...)}
	want := impl.Replica{Author: 1, Log: ops(t, d.wantLog...), Pending: messages(t, d.wantPending...)}
	accepted := d.wantLog != nil || d.wantPending != nil
	if !accepted {
		want = r
	}
	checkReceive(t, r, messages(t, d.message)[0], want, accepted)
}

func TestP43MessagesAreApplied(t *testing.T) {
	for _, d := range []delivery{
		{nil, nil, "0 1a block - - 1", []string{"1a block - - 1"}, nil},
		{nil, nil, "0 9c text - - x", []string{"9c text - - x"}, nil},
		{[]string{"1a block - - 1"}, nil, "1 2a text 1a - x", []string{"1a block - - 1", "2a text 1a - x"}, nil},
		// By the author of the replica, and by another one whose first operation it is.
		{[]string{"1a block - - 1"}, nil, "0 2b text 1a - x", []string{"1a block - - 1", "2b text 1a - x"}, nil},
		{[]string{"1a block - - 1"}, nil, "0 2c text 1a - x", []string{"1a block - - 1", "2c text 1a - x"}, nil},
		// Prev need not be one less than Seq.
		{[]string{"1a block - - 1"}, nil, "1 7a text 1a - x", []string{"1a block - - 1", "7a text 1a - x"}, nil},
		// The log has later operations, also of the same author.
		{[]string{"1a block - - 1", "4a drop 1a"}, nil, "1 3a drop 1a", []string{"1a block - - 1", "3a drop 1a", "4a drop 1a"}, nil},
		{[]string{"4a text - - x"}, nil, "0 3a text - - y", []string{"3a text - - y", "4a text - - x"}, nil},
		{[]string{"3c text - - x"}, nil, "0 3a text - - y", []string{"3a text - - y", "3c text - - x"}, nil},
		// It references an operation with any effect, or none, and the same one twice.
		{[]string{"2a drop 1a"}, nil, "0 3b text 2a 2a y", []string{"2a drop 1a", "3b text 2a 2a y"}, nil},
		{[]string{"1a text - - x"}, nil, "0 3b undo 1a off", []string{"1a text - - x", "3b undo 1a off"}, nil},
	} {
		d.check(t)
	}
}

func TestP43MessagesWithAWrongPrev(t *testing.T) {
	log := []string{"1a block - - 1", "3a drop 1a", "4b drop 1a"}
	for _, message := range []string{"0 5a drop 1a", "1 5a drop 1a", "2 5a drop 1a", "4 5a drop 1a", "0 2a drop 1a", "1 5c drop 1a", "4 5c drop 1a", "0 5b drop 1a", "3 5b drop 1a", "1 4c drop 1a"} {
		delivery{log, nil, message, log, []string{message}}.check(t)
	}
	// These are invalid: Prev is the Seq of the operation, or larger, or negative.
	for _, message := range []string{"5 5a drop 1a", "6 5a drop 1a", "-1 5a drop 1a", "1 1c block - - 1", "-1 5c drop 1a"} {
		delivery{log, nil, message, nil, nil}.check(t)
	}
	// The operation that Prev names arrives afterwards.
	delivery{log, []string{"4 5a drop 1a"}, "3 4a drop 1a", []string{"1a block - - 1", "3a drop 1a", "4a drop 1a", "4b drop 1a", "5a drop 1a"}, nil}.check(t)
	// One arrives in between, so that Prev was right, but no longer is.
	delivery{log, []string{"3 9a drop 1b"}, "3 5a drop 1a", []string{"1a block - - 1", "3a drop 1a", "4b drop 1a", "5a drop 1a"}, []string{"3 9a drop 1b"}}.check(t)
}

func TestP43MessagesWithMissingReferences(t *testing.T) {
	list, _ := sampleOps()
	for _, o := range list {
		var refs []impl.Op
		for _, s := range []impl.Stamp{o.Target, o.After, o.NewParent} {
			if s != (impl.Stamp{}) && !hasID(refs, s) {
				refs = append(refs, impl.Op{ID: s, Kind: impl.OpInsert, Value: 'x'})
			}
		}
		sortOps(refs)
		for skip := range len(refs) + 1 {
			log := slices.Clone(refs)
			if skip < len(refs) {
				log = slices.Delete(log, skip, skip+1)
			}
			m := impl.Message{Op: o, Prev: modelPrev(log, o.ID)}
			want := impl.Replica{Log: append(slices.Clone(log), o)}
			if skip < len(refs) {
				want = impl.Replica{Log: log, Pending: []impl.Message{m}}
			}
			checkReceive(t, impl.Replica{Log: log}, m, want, true)
		}
	}
	// What is pending has not arrived in the log.
	delivery{nil, []string{"1 2a text - - x"}, "0 3b erase 2a", nil, []string{"1 2a text - - x", "0 3b erase 2a"}}.check(t)
	delivery{nil, []string{"1 2a text - - x", "0 3b erase 2a"}, "0 1a block - - 1", []string{"1a block - - 1", "2a text - - x", "3b erase 2a"}, nil}.check(t)
}

func TestP43DuplicatesAreRefused(t *testing.T) {
	log := []string{"1a block - - 1", "2a text 1a - x", "2b text 1a - y"}
	pending := []string{"4 5a drop 1a", "0 6c erase 5a"}
	for _, message := range []string{
		"0 1a block - - 1", "1 2a text 1a - x", "0 2b text 1a - y", "4 5a drop 1a", "0 6c erase 5a",
		// Other messages with an ID that the log or Pending has, ready or not.
		"0 1a block - - 2", "1 2a drop 1a", "0 2a text 1a - x", "1 2b drop 1a", "2 5a drop 1a", "3 5a drop 1a", "4 5a drop 2a", "5 6c erase 5a", "0 6c drop 1a",
	} {
		delivery{log, pending, message, nil, nil}.check(t)
	}
	// The same Seq or the same operation with another author is another ID.
	delivery{log, pending, "0 2c text 1a - x", append(slices.Clone(log), "2c text 1a - x"), pending}.check(t)
	delivery{log, pending, "2 5b drop 1a", append(slices.Clone(log), "5b drop 1a"), pending}.check(t)
	delivery{log, pending, "9 10a drop 1a", log, append(slices.Clone(pending), "9 10a drop 1a")}.check(t)
}

func TestP43InvalidMessagesAreRefused(t *testing.T) {
	for _, r := range []impl.Replica{{}, {Author: 2, Log: ops(t, "1a block - - 1", "2a text 1a - x"), Pending: messages(t, "4 5a drop 1a")}, {Log: dropOps(2, impl.MaxOps, 0), Pending: dropMessages(5, impl.MaxPending, 1)}} {
		for _, m := range badMessages(t) {
			checkReceive(t, r, m, r, false)
		}
	}
}

func TestP43OneMessageMakesOthersReady(t *testing.T) {
	chain := []string{"0 2b text 1a - x", "2 3b text 1a 2b y", "0 4a erase 3b", "3 5b undo 2b off", "0 6c undo 4a off"}
	delivery{nil, chain, "0 1a block - - 1", []string{"1a block - - 1", "2b text 1a - x", "3b text 1a 2b y", "5b undo 2b off"}, []string{"0 4a erase 3b", "0 6c undo 4a off"}}.check(t)
	chain[2] = "1 4a erase 3b"
	delivery{nil, chain, "0 1a block - - 1", []string{"1a block - - 1", "2b text 1a - x", "3b text 1a 2b y", "4a erase 3b", "5b undo 2b off", "6c undo 4a off"}, nil}.check(t)
	// The longest chain: the message itself and a full buffer.
	r := impl.Replica{Author: 2, Pending: dropMessages(2, impl.MaxPending, 0)}
	first := messages(t, "0 1a block - - 1")[0]
	checkReceive(t, r, first, impl.Replica{Author: 2, Log: append([]impl.Op{first.Op}, dropOps(2, impl.MaxPending, 0)...)}, true)
	// A message that is not ready waits among the others in the order of their IDs.
	delivery{nil, []string{"1 2a drop 1a", "3 4a drop 1a"}, "2 3a drop 1a", nil, []string{"1 2a drop 1a", "2 3a drop 1a", "3 4a drop 1a"}}.check(t)
	delivery{nil, []string{"2 3a drop 1a"}, "1 2c drop 1a", nil, []string{"1 2c drop 1a", "2 3a drop 1a"}}.check(t)
	delivery{nil, []string{"2 3a drop 1a"}, "2 3b drop 1a", nil, []string{"2 3a drop 1a", "2 3b drop 1a"}}.check(t)
}

func TestP43TheSmallestReadyMessageIsDeliveredFirst(t *testing.T) {
	log := []string{"1a block - - 1"}
	// As soon as 2a is applied, 3a is not ready any more. The other way round both would be applied.
	delivery{log, []string{"1 3a drop 1a"}, "1 2a drop 1a", []string{"1a block - - 1", "2a drop 1a"}, []string{"1 3a drop 1a"}}.check(t)
	delivery{log, []string{"1 2a drop 1a"}, "1 3a drop 1a", []string{"1a block - - 1", "2a drop 1a"}, []string{"1 3a drop 1a"}}.check(t)
	delivery{log, []string{"1 2a drop 1a", "1 3a drop 1a"}, "5 6c drop 1a", []string{"1a block - - 1", "2a drop 1a"}, []string{"1 3a drop 1a", "5 6c drop 1a"}}.check(t)
	// 7a is ready from the beginning, but no longer when 6a, which had to wait for 5b, has been applied. Without 5b it is 7a that is applied.
	delivery{log, []string{"0 5b erase 4c", "1 6a drop 5b", "1 7a drop 1a"}, "0 4c text - - x", []string{"1a block - - 1", "4c text - - x", "5b erase 4c", "6a drop 5b"}, []string{"1 7a drop 1a"}}.check(t)
	delivery{log, []string{"1 6a drop 5b", "1 7a drop 1a"}, "1 8c drop 1a", []string{"1a block - - 1", "7a drop 1a"}, []string{"1 6a drop 5b", "1 8c drop 1a"}}.check(t)
}

func TestP43PendingOperationsThatTheLogHas(t *testing.T) {
	log := []string{"1a block - - 1", "2a text 1a - x"}
	// The one in the log is kept; the other one leaves Pending when it is ready.
	delivery{log, []string{"1 2a drop 1a"}, "0 3b drop 1a", []string{"1a block - - 1", "2a text 1a - x", "3b drop 1a"}, nil}.check(t)
	delivery{log, []string{"1 2a text 1a - y"}, "4 5b drop 1a", log, []string{"4 5b drop 1a"}}.check(t)
	delivery{log, []string{"0 2a drop 1a"}, "4 5b drop 1a", log, []string{"0 2a drop 1a", "4 5b drop 1a"}}.check(t)
}

func TestP43FullBuffer(t *testing.T) {
	log := ops(t, "1a block - - 1")
	waiting := dropMessages(5, impl.MaxPending, 0) // the first one waits for 4a
	ready, release, unready := messages(t, "0 3b drop 1a"), messages(t, "1 4a drop 1a"), messages(t, "98 99b drop 1a")
	check := func(pending []impl.Message, m impl.Message, wantLog []impl.Op, wantPending []impl.Message, wantOK bool) {
		t.Helper()
		checkReceive(t, impl.Replica{Author: 1, Log: log, Pending: pending}, m, impl.Replica{Author: 1, Log: wantLog, Pending: wantPending}, wantOK)
	}
	check(waiting, unready[0], log, waiting, false)
	check(waiting, ready[0], slices.Concat(log, ops(t, "3b drop 1a")), waiting, true)
	check(waiting, release[0], slices.Concat(log, dropOps(4, impl.MaxPending+1, 0)), nil, true)
	// Only afterwards the buffer is full.
	almost := waiting[:impl.MaxPending-1]
	check(almost, unready[0], log, slices.Concat(almost, unready), true)
	check(almost, ready[0], slices.Concat(log, ops(t, "3b drop 1a")), almost, true)
	// Another one of the messages in the full buffer is ready, so that there is room for this one; or it is not.
	check(slices.Concat(release, waiting[1:]), unready[0], slices.Concat(log, ops(t, "4a drop 1a")), slices.Concat(waiting[1:], unready), true)
	stuck := slices.Concat(messages(t, "1 4a drop 1b"), waiting[1:])
	check(stuck, unready[0], log, stuck, false)
}

func TestP43FullLog(t *testing.T) {
	full := append(ops(t, "1a block - - 1"), dropOps(2, impl.MaxOps-1, 0)...)
	check := func(log []impl.Op, pending []impl.Message, message string, wantLog []impl.Op, wantPending []impl.Message, wantOK bool) {
		t.Helper()
		r, want := impl.Replica{Author: 1, Log: log, Pending: pending}, impl.Replica{Author: 1, Log: wantLog, Pending: wantPending}
		checkReceive(t, r, messages(t, message)[0], want, wantOK)
	}
	// Messages that are ready wait, because the log is full.
	one, two := messages(t, "0 50b drop 1a"), messages(t, "0 50b drop 1a", "50 51b drop 1a")
	check(full, nil, "0 50b drop 1a", full, one, true)
	check(full, one, "50 51b drop 1a", full, two, true)
	check(full, messages(t, "59 60c drop 1a"), "0 50b drop 1a", full, slices.Concat(one, messages(t, "59 60c drop 1a")), true)
	// The buffer becomes full, too.
	buffer := dropMessages(60, impl.MaxPending-1, 2)
	check(full, buffer, "0 50b drop 1a", full, slices.Concat(one, buffer), true)
	check(full, slices.Concat(one, buffer), "50 51b drop 1a", full, slices.Concat(one, buffer), false)
	// A ready message waits even if the full log has its operation.
	known := messages(t, "1 2a text - - x")
	check(full, known, "0 50b drop 1a", full, slices.Concat(known, one), true)
	// There is room for one: it is the one with the smallest ID. An operation that the log has takes no room.
	room := full[:impl.MaxOps-1]
	then := slices.Concat(room, ops(t, "50b drop 1a"))
	check(room, nil, "0 50b drop 1a", then, nil, true)
	check(room, one, "50 51b drop 1a", then, two[1:], true)
	check(room, messages(t, "0 52c drop 1a"), "0 50b drop 1a", then, messages(t, "0 52c drop 1a"), true)
	check(room, messages(t, "50 51b drop 1a"), "0 50b drop 1a", then, two[1:], true)
	check(room, known, "0 50b drop 1a", then, nil, true)
}

func TestP43DeliveryLosesNothingAndIgnoresDuplicates(t *testing.T) {
	seen := map[string]int{}
	someReplicas(43, func(r impl.Replica, m impl.Message) {
		got, ok := impl.ReplicaReceive(r, m)
		want, wantOK := modelReceive(r, m)
		checkReceive(t, r, m, want, wantOK)
		for _, id := range idsOf(r.Log) {
			if hasID(r.Log, id) && !hasID(got.Log, id) {
				t.Fatalf("ReplicaReceive(%v, %v) = %v loses %v", r, m, got, id)
			}
		}
		switch {
		case !ok && modelValidMessage(m) && !hasID(r.Log, m.Op.ID) && !hasPending(r, m.Op.ID):
			seen["no room"]++
		case !ok:
			seen["refused"]++
		case len(got.Log) == impl.MaxOps && len(r.Log) == impl.MaxOps:
			seen["full log"]++
		case len(got.Log) > len(r.Log)+2:
			seen["chain"]++
		case hasID(got.Log, m.Op.ID):
			seen["applied"]++
		case hasPending(got, m.Op.ID):
			seen["buffered"]++
		default:
			t.Fatalf("ReplicaReceive(%v, %v) = %v, which does not have the operation", r, m, got)
		}
		if again, twice := impl.ReplicaReceive(got, m); ok && (twice || !sameReplica(again, got)) {
			t.Fatalf("the second time, ReplicaReceive(%v, %v) = %v, %v", got, m, again, twice)
		}
	})
	for _, class := range []string{"no room", "refused", "full log", "chain", "applied", "buffered"} {
		if seen[class] < rounds/20 {
			t.Errorf("the replicas of the test are one-sided: %v", seen)
		}
	}
}

// checkEdit fails the test if an edit of a replica of author 1 does not give this message and this log. What is pending must stay.
func checkEdit(t *testing.T, log []string, pending []string, o impl.Op, want string, wantLog ...string) {
	t.Helper()
	r := impl.Replica{Author: 1, Log: ops(t, log...), Pending: messages(t, pending...)}
	got, m, ok := impl.ReplicaEdit(r, o)
	wanted := impl.Replica{Author: 1, Log: ops(t, wantLog...), Pending: r.Pending}
	if !ok || m != messages(t, want)[0] || !sameReplica(got, wanted) {
		t.Errorf("ReplicaEdit(%v, %v) = %v, %v, %v, want %q and %q", r, o, got, m, ok, want, wantLog)
	}
}

// checkNoEdit fails the test if an edit is possible.
func checkNoEdit(t *testing.T, r impl.Replica, o impl.Op) {
	t.Helper()
	if got, m, ok := impl.ReplicaEdit(r, o); ok || m != (impl.Message{}) || !sameReplica(got, r) {
		t.Errorf("ReplicaEdit(%v, %v) = %v, %v, %v, want failure", r, o, got, m, ok)
	}
}

func TestP44Edits(t *testing.T) {
	x := impl.Op{Kind: impl.OpInsert, Value: 'x'}
	checkEdit(t, nil, nil, x, "0 1b text - - x", "1b text - - x")
	checkEdit(t, []string{"1a block - - 1"}, nil, x, "0 2b text - - x", "1a block - - 1", "2b text - - x")
	checkEdit(t, []string{"1b block - - 1"}, nil, x, "1 2b text - - x", "1b block - - 1", "2b text - - x")
	checkEdit(t, []string{"1b block - - 1", "7b drop 1a", "9c drop 1a"}, nil, x, "7 10b text - - x", "1b block - - 1", "7b drop 1a", "9c drop 1a", "10b text - - x")
	checkEdit(t, []string{"98a text - - y"}, nil, x, "0 99b text - - x", "98a text - - y", "99b text - - x")
	// What is pending counts neither for the stamp nor for Prev.
	checkEdit(t, []string{"1b block - - 1"}, []string{"6 7b drop 1a", "5 30c drop 1a"}, x, "1 2b text - - x", "1b block - - 1", "2b text - - x")
	// The ID that the operation comes with does not matter.
	for _, id := range append(badStamps(), at(1, 0), at(50, 2)) {
		o := x
		o.ID, o.Target, o.After = id, at(2, 0), at(3, 2)
		checkEdit(t, []string{"2a block - - 1", "3c text 2a - y"}, nil, o, "0 4b text 2a 3c x", "2a block - - 1", "3c text 2a - y", "4b text 2a 3c x")
	}
}

func TestP44EditsOfEachKind(t *testing.T) {
	list, _ := sampleOps()
	for _, o := range list {
		if o.After == at(40, 0) {
			continue // the next stamp would not be the one of the sample
		}
		log := []impl.Op{{ID: at(39, 0), Kind: impl.OpInsert, Value: 'x'}}
		for _, s := range []impl.Stamp{o.Target, o.After, o.NewParent} {
			if s != (impl.Stamp{}) && !hasID(log, s) {
				log = append(log, impl.Op{ID: s, Kind: impl.OpInsert, Value: 'x'})
			}
		}
		for skip := range log {
			// At index 0 nothing is left out, at the others an operation that the edit references.
			some := slices.Clone(log)
			if skip > 0 {
				some = slices.Delete(some, skip, skip+1)
			}
			sortOps(some)
			r, m := impl.Replica{Author: 1, Log: some}, impl.Message{Op: o, Prev: modelPrev(some, o.ID)}
			if skip > 0 {
				checkNoEdit(t, r, o)
				continue
			}
			if got, sent, ok := impl.ReplicaEdit(r, o); !ok || sent != m || !sameReplica(got, impl.Replica{Author: 1, Log: append(some, o)}) {
				t.Errorf("ReplicaEdit(%v, %v) = %v, %v, %v, want %v", r, o, got, sent, ok, m)
			}
		}
	}
}

func TestP44EditsThatMakeMessagesReady(t *testing.T) {
	drop := impl.Op{Kind: impl.OpRemoveBlock, Target: at(1, 0)}
	log := ops(t, "1a block - - 1")
	for _, x := range []struct {
		pending, wantLog, wantPending []string
	}{
		{[]string{"0 3a text - 2b x"}, []string{"1a block - - 1", "2b drop 1a"}, []string{"0 3a text - 2b x"}},
		{[]string{"1 3a text - 2b x"}, []string{"1a block - - 1", "2b drop 1a", "3a text - 2b x"}, nil},
		{[]string{"0 3c undo 2b off", "2 4b drop 1a", "4 5b drop 1a", "3 7c erase 6c"}, []string{"1a block - - 1", "2b drop 1a", "3c undo 2b off", "4b drop 1a", "5b drop 1a"}, []string{"3 7c erase 6c"}},
		// Messages that were ready before. One of them has the ID of the edit, which the log then has.
		{[]string{"1 2a text 1a - y"}, []string{"1a block - - 1", "2a text 1a - y", "2b drop 1a"}, nil},
		{[]string{"0 2b text 1a - y"}, []string{"1a block - - 1", "2b drop 1a"}, nil},
		{[]string{"1 2b text 1a - y"}, []string{"1a block - - 1", "2b drop 1a"}, []string{"1 2b text 1a - y"}},
	} {
		r := impl.Replica{Author: 1, Log: log, Pending: messages(t, x.pending...)}
		want := impl.Replica{Author: 1, Log: ops(t, x.wantLog...), Pending: messages(t, x.wantPending...)}
		if got, m, ok := impl.ReplicaEdit(r, drop); !ok || m != messages(t, "0 2b drop 1a")[0] || !sameReplica(got, want) {
			t.Errorf("ReplicaEdit(%v) = %v, %v, %v, want %v", r, got, m, ok, want)
		}
	}
	// A full buffer is no obstacle, and the log is not made longer than it may be.
	r := impl.Replica{Author: 1, Log: dropOps(3, impl.MaxOps-3, 1), Pending: dropMessages(43, impl.MaxPending, 0)}
	r.Log = append(ops(t, "1a block - - 1"), r.Log...)
	last := r.Log[len(r.Log)-1].ID.Seq
	r.Pending[0].Prev, r.Pending[0].Op.Target = 1, at(last+1, 1)
	got, m, ok := impl.ReplicaEdit(r, drop)
	full := append(slices.Clone(r.Log), m.Op, r.Pending[0].Op)
	if !ok || m.Op.ID != at(last+1, 1) || len(full) != impl.MaxOps || !sameReplica(got, impl.Replica{Author: 1, Log: full, Pending: r.Pending[1:]}) {
		t.Errorf("ReplicaEdit(%v) = %v, %v, %v", r, got, m, ok)
	}
	r.Log = append(slices.Clone(r.Log), impl.Op{ID: at(last, 2), Kind: impl.OpInsert, Value: 'x'})
	got, m, ok = impl.ReplicaEdit(r, drop)
	if !ok || !sameReplica(got, impl.Replica{Author: 1, Log: append(slices.Clone(r.Log), m.Op), Pending: r.Pending}) {
		t.Errorf("ReplicaEdit(%v) = %v, %v, %v", r, got, m, ok)
	}
}

func TestP44ImpossibleEdits(t *testing.T) {
	x := impl.Op{Kind: impl.OpInsert, Value: 'x'}
	r := impl.Replica{Author: 1, Log: ops(t, "1a block - - 1", "2b text 1a - y"), Pending: messages(t, "4 5a drop 1a", "0 6c erase 5a")}
	for _, o := range []impl.Op{
		// Invalid operations.
		{}, {Kind: impl.OpInsert}, {Kind: impl.OpInsert, Value: 127}, {Kind: 11, Value: 'x'}, {Kind: -1}, {Kind: impl.OpInsert, Value: 'x', Enable: true},
		{Kind: impl.OpInsert, Value: 'x', NewParent: at(1, 0)}, {Kind: impl.OpDelete}, {Kind: impl.OpReply, Target: at(1, 0)}, {Kind: impl.OpReply, Target: at(1, 0), Text: "abcdefghi"},
		{ID: at(9, 1), Kind: impl.OpDelete, Target: at(3, 1)}, {ID: at(9, 1), Kind: impl.OpDelete, Target: at(4, 0)}, {Kind: impl.OpInsert, Value: 'x', Target: at(0, 1)},
		// References to what is not in the log.
		{Kind: impl.OpDelete, Target: at(1, 1)}, {Kind: impl.OpDelete, Target: at(2, 0)}, {Kind: impl.OpInsert, Value: 'x', Target: at(1, 2)},
		{Kind: impl.OpInsert, Value: 'x', Target: at(1, 0), After: at(2, 0)}, {Kind: impl.OpMoveBlock, Target: at(1, 0), NewParent: at(2, 2)}, {Kind: impl.OpMoveBlock, Target: at(1, 0), After: at(3, 0)},
	} {
		checkNoEdit(t, r, o)
	}
	// References to what is pending.
	later := impl.Replica{Author: 1, Log: ops(t, "1a block - - 1", "20b text 1a - y"), Pending: r.Pending}
	checkNoEdit(t, later, impl.Op{Kind: impl.OpDelete, Target: at(5, 0)})
	checkNoEdit(t, later, impl.Op{Kind: impl.OpDelete, Target: at(6, 2)})
	// No stamp is left.
	for who := range impl.MaxAuthors {
		last := impl.Op{ID: at(impl.MaxCounter, who), Kind: impl.OpInsert, Value: 'x'}
		checkNoEdit(t, impl.Replica{Author: 1, Log: []impl.Op{last}}, x)
		checkNoEdit(t, impl.Replica{Author: 1, Log: []impl.Op{last}}, impl.Op{ID: at(50, 1), Kind: impl.OpInsert, Value: 'x'})
	}
	// The log is full. With one operation less it is possible.
	full := impl.Replica{Author: 1, Log: dropOps(2, impl.MaxOps, 0)}
	checkNoEdit(t, full, x)
	full.Pending = messages(t, "0 9b text - - x")
	checkNoEdit(t, full, x)
	full.Log = full.Log[1:]
	if got, _, ok := impl.ReplicaEdit(full, x); !ok || len(got.Log) != impl.MaxOps {
		t.Errorf("ReplicaEdit(%v) = %v, %v", full, got, ok)
	}
}

func TestP44LocalEditsAreAppliedAtOnce(t *testing.T) {
	random := rand.New(rand.NewSource(44))
	done, failed, chains := 0, 0, 0
	someReplicas(44, func(r impl.Replica, other impl.Message) {
		o := other.Op
		if len(r.Log) > 0 && random.Intn(4) > 0 {
			o = docOp(random, r.Log, at(impl.MaxCounter, 2), 1+random.Intn(impl.OpUndo))
		}
		got, m, ok := impl.ReplicaEdit(r, o)
		want, wantMessage, wantOK := modelEdit(r, o)
		if ok != wantOK || m != wantMessage || !sameReplica(got, want) {
			t.Fatalf("ReplicaEdit(%v, %v) = %v, %v, %v, want %v, %v, %v", r, o, got, m, ok, want, wantMessage, wantOK)
		}
		if !ok {
			failed++
			return
		}
		done++
		if len(got.Log) > len(r.Log)+1 {
			chains++
		}
		for _, x := range r.Log {
			if !impl.StampLess(x.ID, m.Op.ID) {
				t.Fatalf("the stamp of %v does not sort after %v", m, r.Log)
			}
		}
		for who := range impl.MaxAuthors {
			there, arrived := impl.ReplicaReceive(impl.Replica{Author: who, Log: r.Log}, m)
			if !arrived || !slices.Equal(there.Log, append(slices.Clone(r.Log), m.Op)) || len(there.Pending) != 0 {
				t.Fatalf("%v is not applied to %v, but gives %v, %v", m, r.Log, there, arrived)
			}
		}
	})
	if done < rounds || failed < rounds || chains < rounds/2 {
		t.Errorf("the test has %d edits, %d of which make others ready, and %d impossible ones", done, chains, failed)
	}
}

// checkMissing fails the test if a replica with a log does not have these messages for a vector.
func checkMissing(t *testing.T, log []string, v []int, want ...string) {
	t.Helper()
	for who := range impl.MaxAuthors {
		r := impl.Replica{Author: who, Log: ops(t, log...), Pending: dropMessages(80, 3, 1)}
		if got := impl.ReplicaMissing(r, v); !slices.Equal(got, messages(t, want...)) {
			t.Errorf("ReplicaMissing(%v, %v) = %v, want %q", r, v, got, want)
		}
	}
}

func TestP45MissingMessages(t *testing.T) {
	log := []string{"1a block - - 1", "2b text 1a - x", "3a drop 1a", "3b text 1a 2b y", "5c erase 2b", "9b drop 1a"}
	checkMissing(t, log, []int{0, 0, 0}, "0 1a block - - 1", "0 2b text 1a - x", "1 3a drop 1a", "2 3b text 1a 2b y", "0 5c erase 2b", "3 9b drop 1a")
	checkMissing(t, log, []int{3, 9, 5})
	checkMissing(t, log, []int{99, 99, 99})
	checkMissing(t, log, []int{1, 2, 5}, "1 3a drop 1a", "2 3b text 1a 2b y", "3 9b drop 1a")
	checkMissing(t, log, []int{2, 8, 4}, "1 3a drop 1a", "0 5c erase 2b", "3 9b drop 1a")
	checkMissing(t, log, []int{99, 0, 99}, "0 2b text 1a - x", "2 3b text 1a 2b y", "3 9b drop 1a")
	checkMissing(t, nil, []int{0, 0, 0})
	checkMissing(t, nil, []int{1, 2, 3})
	for _, v := range badVectors() {
		for _, log := range [][]impl.Op{nil, ops(t, log...)} {
			if got := impl.ReplicaMissing(impl.Replica{Log: log}, v); got != nil {
				t.Errorf("ReplicaMissing(%v, %v) = %v, want nil", log, v, got)
			}
		}
	}
}

// receiveAll returns what a replica is after it has received messages, and whether it accepted all of them.
func receiveAll(r impl.Replica, list []impl.Message) (impl.Replica, bool) {
	all := true
	for _, m := range list {
		next, ok := impl.ReplicaReceive(r, m)
		r, all = next, all && ok
	}
	return r, all
}

func TestP45ALongLogDoesNotFitIntoTheBuffer(t *testing.T) {
	log := append(ops(t, "1a block - - 1"), dropOps(2, impl.MaxPending, 0)...)
	for extra := range 2 {
		list := impl.ReplicaMissing(impl.Replica{Log: log}, []int{0, 0, 0})
		slices.Reverse(list)
		got, all := receiveAll(impl.Replica{Author: 2}, list)
		want := impl.Replica{Author: 2, Log: log}
		if extra > 0 {
			// The buffer was full when 2a arrived.
			want = impl.Replica{Author: 2, Log: log[:1], Pending: modelMessages(log, []int{2, 0, 0})}
		}
		if all != (extra == 0) || !sameReplica(got, want) {
			t.Errorf("with %d operations in reverse order, the replica is %v, %v, want %v", len(log), got, all, want)
		}
		log = append(log, dropOps(impl.MaxPending+2, 1, 0)...)
	}
}

func TestP45ALogIsTransferredInReverseOrder(t *testing.T) {
	random := rand.New(rand.NewSource(45))
	complete, long := 0, 0
	for range 3 * rounds {
		log := randomDocLog(random, random.Intn(impl.MaxOps+1), randomWeights(random))
		who := random.Intn(impl.MaxAuthors)
		source := impl.Replica{Author: who, Log: log}
		list := impl.ReplicaMissing(source, []int{0, 0, 0})
		if !slices.Equal(list, modelMessages(log, []int{0, 0, 0})) {
			t.Fatalf("ReplicaMissing(%v) = %v", log, list)
		}
		v := []int{random.Intn(40), random.Intn(40), random.Intn(40)}
		if rest := impl.ReplicaMissing(source, v); !slices.Equal(rest, modelMessages(log, v)) {
			t.Fatalf("ReplicaMissing(%v, %v) = %v", log, v, rest)
		}
		if got, all := receiveAll(impl.Replica{Author: who}, list); !all || !sameReplica(got, source) {
			t.Fatalf("the messages %v in their order give %v, %v", list, got, all)
		}
		slices.Reverse(list)
		got, all := receiveAll(impl.Replica{Author: who}, list)
		if all && !sameReplica(got, source) || !all && len(log) <= impl.MaxPending+1 {
			t.Fatalf("the messages %v give %v, %v", list, got, all)
		}
		if all {
			complete++
		}
		if all && len(log) > impl.MaxPending {
			long++
		}
	}
	if complete < rounds || long < rounds/20 {
		t.Errorf("the test transfers only %d logs, %d of them with many operations", complete, long)
	}
}

func TestP45LogsAreTransferredBothWays(t *testing.T) {
	random := rand.New(rand.NewSource(451))
	exchanged := 0
	for range rounds {
		a, b := impl.Replica{Author: 0}, impl.Replica{Author: 1}
		for range 10 + random.Intn(20) {
			a, b = edited(random, a), edited(random, b)
			if random.Intn(6) == 0 {
				b, _ = receiveAll(b, impl.ReplicaMissing(a, impl.LogVector(b.Log)))
			}
			if random.Intn(6) == 0 {
				a, _ = receiveAll(a, impl.ReplicaMissing(b, impl.LogVector(a.Log)))
			}
		}
		union := unionOf(a.Log, b.Log)
		if len(union) > impl.MaxOps {
			continue
		}
		toA, toB := impl.ReplicaMissing(b, impl.LogVector(a.Log)), impl.ReplicaMissing(a, impl.LogVector(b.Log))
		a, okA := receiveAll(a, toA)
		b, okB := receiveAll(b, toB)
		if !okA || !okB || !slices.Equal(a.Log, union) || !slices.Equal(b.Log, union) || len(a.Pending)+len(b.Pending) > 0 {
			t.Fatalf("the replicas do not agree:\n%v\n%v", a, b)
		}
		exchanged += len(toA) + len(toB)
	}
	if exchanged < rounds {
		t.Errorf("at the end the replicas of the test exchange only %d messages", exchanged)
	}
}

// edited returns a replica, every second time after a random edit.
func edited(random *rand.Rand, r impl.Replica) impl.Replica {
	if random.Intn(2) == 0 {
		return r
	}
	o := impl.Op{Kind: impl.OpInsert, Value: 'x'}
	if len(r.Log) > 0 && random.Intn(3) > 0 {
		o = docOp(random, r.Log, at(impl.MaxCounter, 2), 1+random.Intn(impl.OpUndo))
	}
	r, _, _ = impl.ReplicaEdit(r, o)
	return r
}
