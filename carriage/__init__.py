"""Where a carriage is, told by two signals alone."""
