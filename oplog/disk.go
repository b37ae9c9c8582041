package oplog

import (
	"stemma/api"
	"stemma/files"
)

// step is one call of a disk.
type step func() api.Errno

// inOrder does steps, one behind the other, till one fails.
func inOrder(what string, steps ...step) error {
	for _, do := range steps {
		if errno := do(); errno != api.OK {
			return because(what, errno)
		}
	}
	return nil
}

// read is a file's bytes.
func read(d *files.Disk, name string) ([]byte, error) {
	b, errno := d.Read(name)
	return b, because("read "+name, errno)
}

// begin makes an empty log's file.
func begin(d *files.Disk) error {
	if err := removeNew(d); err != nil {
		return err
	}
	return inOrder("begin",
		func() api.Errno { return d.Make(logName) },
		d.SyncNames,
	)
}

// settle makes the log's file, as it is, durable.
func settle(d *files.Disk) error {
	return inOrder("settle",
		func() api.Errno { return d.Sync(logName) },
		d.SyncNames,
	)
}

// writeAnew puts a file of these bytes in the place of the log's. It gets the log's name only when it is durable, so that
// the one or the other is found whenever power goes.
func writeAnew(d *files.Disk, b []byte) error {
	if err := removeNew(d); err != nil {
		return err
	}
	if len(b) > api.MaxFile { // asked ahead: power might leave a file that was made and taken away again
		return because("write anew", api.ErrFileFull)
	}
	return inOrder("write anew",
		func() api.Errno { return d.Make(newName) },
		func() api.Errno { return d.Append(newName, b) },
		func() api.Errno { return d.Sync(newName) },
		d.SyncNames,
		func() api.Errno { return d.Rename(newName, logName) },
		d.SyncNames,
	)
}

// removeNew takes away what a call that power ended may have left.
func removeNew(d *files.Disk) error {
	err := because("remove", d.Remove(newName))
	if noFile(err) {
		return nil
	}
	return err
}
