package tests

import (
	"testing"

	"loop.example/collabdoc/impl"
)

func TestReplicasChangeNoArgument(t *testing.T) {
	spare := impl.Op{ID: at(98, 2), Kind: impl.OpReply, Target: at(1, 0), Text: "behind"}
	check := func(r impl.Replica, m impl.Message) {
		ofLog := func(name string, call func(r impl.Replica) impl.Replica) {
			checkFresh(t, name, r.Log, spare, func(log []impl.Op) []impl.Op {
				return call(impl.Replica{Author: r.Author, Log: log, Pending: r.Pending}).Log
			})
			checkFresh(t, name, r.Pending, impl.Message{Op: spare, Prev: 97}, func(pending []impl.Message) []impl.Message {
				return call(impl.Replica{Author: r.Author, Log: r.Log, Pending: pending}).Pending
			})
		}
		ofLog("ValidReplica", func(r impl.Replica) impl.Replica { impl.ValidReplica(r); return impl.Replica{} })
		ofLog("ReplicaReceive", func(r impl.Replica) impl.Replica { got, _ := impl.ReplicaReceive(r, m); return got })
		ofLog("ReplicaEdit", func(r impl.Replica) impl.Replica { got, _, _ := impl.ReplicaEdit(r, m.Op); return got })
		ofLog("ReplicaMissing", func(r impl.Replica) impl.Replica {
			return impl.Replica{Pending: impl.ReplicaMissing(r, []int{0, 0, 0})}
		})
		checkFresh(t, "ReplicaMissing", []int{2, 3, 4}, 77, func(v []int) []int { impl.ReplicaMissing(r, v); return nil })
	}
	someReplicas(103, check)
	for _, r := range badReplicas(t) {
		check(r, messages(t, "0 40c text - - x")[0])
	}
	for _, m := range badMessages(t) {
		check(impl.Replica{Author: 1, Log: ops(t, "1a block - - 1"), Pending: dropMessages(5, impl.MaxPending, 0)}, m)
		checkFresh(t, "ReplicaMissing", []int{2, 3}, 77, func(v []int) []int { impl.ReplicaMissing(impl.Replica{}, v); return nil })
	}
}

func TestReplicasShareNoMemory(t *testing.T) {
	other := impl.Message{Prev: 77}
	someReplicas(104, func(r impl.Replica, m impl.Message) {
		receive := func() impl.Replica { got, _ := impl.ReplicaReceive(r, m); return got }
		edit := func() impl.Replica { got, _, _ := impl.ReplicaEdit(r, m.Op); return got }
		checkKept(t, "ReplicaReceive", other.Op, func() []impl.Op { return receive().Log })
		checkKept(t, "ReplicaReceive", other, func() []impl.Message { return receive().Pending })
		checkKept(t, "ReplicaEdit", other.Op, func() []impl.Op { return edit().Log })
		checkKept(t, "ReplicaEdit", other, func() []impl.Message { return edit().Pending })
		checkKept(t, "ReplicaMissing", other, func() []impl.Message { return impl.ReplicaMissing(r, []int{1, 1, 1}) })
	})
}
