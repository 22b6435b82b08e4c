// Package epochs: a store's state on a disk: which files it has, and by which operations they change.
package epochs

import (
	"slices"

	"warden/api"
	"warden/disk"
	"warden/records"
	"warden/schemas"
	"warden/state"
)

// Disk is what the files lie on.
type Disk interface {
	Do(disk.Operation)
	Names() []string                 // in rising order
	Read(name string) (string, bool) // the bytes of a file; false if there is none
	Trouble() api.Errno              // why it does nothing any more; OK as long as all is well
}

// Keeper keeps a state on a disk. It goes on with its operations whatever has become of the disk, which does none any more behind trouble, and asks in the end.
type Keeper struct {
	disk    Disk
	now     *state.State
	epoch   int    // the one that counts
	waiting []byte // the frames of the transactions that are not safe
	safe    int    // the revision up to which all is safe
}

// Open has what lies on a disk, or a new state if no manifest lies there, and takes away what belongs to neither. It is nil and ErrCorrupt, and the disk as it was, if what lies there can't be; nil and the disk's trouble, if it has any.
func Open(schema *schemas.Schema, d Disk) (*Keeper, api.Errno) {
	k := &Keeper{disk: d}
	manifest, found := d.Read(records.Manifest)
	if !found {
		k.begin(schema)
	} else if !k.load(schema, manifest) {
		return nil, api.ErrCorrupt
	}
	if e := d.Trouble(); e != api.OK {
		return nil, e
	}
	return k, api.OK
}

// begin makes a new state, in epoch 0, on a disk that has nothing else.
func (k *Keeper) begin(schema *schemas.Schema) {
	k.now = state.New(schema)
	k.sweep()
	k.enter(0)
}

// load has the state of the epoch that a manifest names; false if that can't be.
func (k *Keeper) load(schema *schemas.Schema, manifest string) bool {
	epoch, ok := records.ReadManifest(manifest)
	k.epoch = epoch
	if !ok || !k.loadCheckpoint(schema) || !k.loadLog() {
		return false
	}
	k.sweep(records.Manifest, records.CheckpointName(epoch), records.LogName(epoch))
	return true
}

// State is what is kept.
func (k *Keeper) State() *state.State { return k.now }

// Safe is the revision up to which all is safe.
func (k *Keeper) Safe() int { return k.safe }

// Write does a transaction, which waits for the next Flush then.
func (k *Keeper) Write(x api.Tx) (int, api.Errno) {
	revision, e := k.now.Write(x)
	if e != api.OK {
		return 0, e
	}
	framed := records.MakeTransaction(records.Transaction{Revision: revision, Put: x.Put, Drop: x.Drop})
	k.waiting = append(k.waiting, framed...)
	return revision, api.OK
}

// Flush makes the transactions safe that wait for it, and tells the disk's trouble.
func (k *Keeper) Flush() api.Errno {
	if len(k.waiting) == 0 {
		return api.OK
	}
	log := records.LogName(k.epoch)
	k.append(log, string(k.waiting))
	k.do(disk.Sync, log)
	// Behind trouble there is no other Flush, so nothing waits for it.
	k.waiting = nil
	e := k.disk.Trouble()
	if e == api.OK {
		k.safe = k.now.Revision()
	}
	return e
}

// Checkpoint makes all safe, and goes on in a new epoch, whose log is empty; it tells the disk's trouble.
func (k *Keeper) Checkpoint() api.Errno {
	if e := k.Flush(); e != api.OK {
		return e
	}
	old := k.epoch
	k.enter(next(old))
	k.do(disk.Remove, records.CheckpointName(old))
	k.do(disk.Remove, records.LogName(old))
	k.do(disk.SyncDir, "")
	return k.disk.Trouble()
}

// next is the epoch behind another one.
func next(epoch int) int {
	if epoch == api.MaxNumber {
		return 0
	}
	return epoch + 1
}

// enter writes the state as an epoch's checkpoint, and makes this epoch the one that counts.
func (k *Keeper) enter(epoch int) {
	checkpoint, log := records.CheckpointName(epoch), records.LogName(epoch)
	k.do(disk.Create, checkpoint)
	// All frames are taken, even if the disk drops them: else the one that makes them would never end.
	for framed := range records.MakeCheckpoint(k.now.Revision(), k.now.Read("")) {
		k.append(checkpoint, framed)
	}
	k.do(disk.Sync, checkpoint)
	k.do(disk.Create, log)
	k.do(disk.Sync, log)
	k.do(disk.SyncDir, "")
	k.do(disk.Create, records.Draft)
	k.append(records.Draft, records.MakeManifest(epoch))
	k.do(disk.Sync, records.Draft)
	k.disk.Do(disk.Operation{Kind: disk.Rename, Name: records.Draft, To: records.Manifest})
	k.epoch = epoch
	k.do(disk.SyncDir, "")
}

// loadCheckpoint takes the state from the epoch's checkpoint; false if that is not there or not right.
func (k *Keeper) loadCheckpoint(schema *schemas.Schema) bool {
	data, found := k.disk.Read(records.CheckpointName(k.epoch))
	revision, tuples, ok := records.ReadCheckpoint(data)
	if !found || !ok {
		return false
	}
	k.now, ok = state.Restore(schema, revision, tuples)
	return ok
}

// loadLog does the transactions of the epoch's log; false if that is not there or not right. What is torn behind them is cut off, so that what is appended later can be read.
func (k *Keeper) loadLog() bool {
	log := records.LogName(k.epoch)
	data, found := k.disk.Read(log)
	transactions, length, ok := records.ReadLog(data)
	if !found || !ok || !k.redo(transactions) {
		return false
	}
	k.safe = k.now.Revision()
	if length < len(data) {
		k.disk.Do(disk.Operation{Kind: disk.Cut, Name: log, Length: length})
		k.do(disk.Sync, log)
	}
	return true
}

// redo does transactions of a log; false if one could not have been done. What a log tells must be what Write could have noted there, so Write is what judges it.
func (k *Keeper) redo(transactions []records.Transaction) bool {
	for _, t := range transactions {
		revision, e := k.now.Write(api.Tx{Put: t.Put, Drop: t.Drop})
		if e != api.OK || revision != t.Revision {
			return false
		}
	}
	return true
}

// sweep removes every file but those that are kept.
func (k *Keeper) sweep(kept ...string) {
	removed := false
	for _, name := range k.disk.Names() {
		if !slices.Contains(kept, name) {
			k.do(disk.Remove, name)
			removed = true
		}
	}
	if removed {
		k.do(disk.SyncDir, "")
	}
}

// do does an operation that needs no more than a name, or none.
func (k *Keeper) do(kind disk.Kind, name string) {
	k.disk.Do(disk.Operation{Kind: kind, Name: name})
}

func (k *Keeper) append(name, bytes string) {
	k.disk.Do(disk.Operation{Kind: disk.Append, Name: name, Bytes: bytes})
}
